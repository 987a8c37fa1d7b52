package session_test

import (
	"math"
	"slices"
	"testing"

	"causeway/api"
	"causeway/session"
	"causeway/wire"
)

// spoil writes into all lists of a commit.
func spoil(c api.Commit) {
	for i := range c.When {
		c.When[i] = 77
	}
	for i := range c.Ops {
		for j := range c.Ops[i].Dots {
			c.Ops[i].Dots[j] = api.Dot{Place: 7, Time: 7, At: 7}
		}
		c.Ops[i] = counter("spoiled", 7)
	}
}

func TestP4Answers(t *testing.T) {
	p := newPlace(t, 0, 2, 1)
	put(t, p, add("s", "a"), add("s", "b"))
	s := newSession(t, 2)
	s.Token()[0] = 9
	wantToken(t, "spoiled", s, 0, 0)
	at := mustBegin(t, s, p)
	at[0], at[1] = 0, 9
	wantToken(t, "at spoiled", s, 1, 0)
	s.Token()[0] = 0
	wantToken(t, "spoiled", s, 1, 0)
	mustDo(t, s.Drop("s", "a"), s.Put("s", "c"))
	for range 2 {
		v, err := s.Read("s")
		if err != nil || !sameValue(v, isSet("b", "c")) {
			t.Fatalf("Read = %v, %v", v, err)
		}
		v.Set[0], v.Set[1] = "spoiled", "spoiled"
	}
	c, l := mustCommit(t, s)
	kept := wire.Copy(l[0])
	spoil(c)
	if !sameMessage(l[0], kept) {
		t.Errorf("the message shares memory with the commit: %+v", l[0])
	}
	spoil(l[0].C)
	wantToken(t, "commit spoiled", s, 2, 0)
	if again := p.Again(); !sameMessage(again[1], kept) {
		t.Errorf("the place shares memory with what was answered: %+v", again)
	}
	mustBegin(t, s, p)
	wantRead(t, "all spoiled", s, "s", isSet("b", "c"))
	c, _ = mustCommit(t, s)
	spoil(c)
	wantToken(t, "commit without ops spoiled", s, 2, 0)
}

// TestP4Tokens: what a session keeps of one place does not change with it.
func TestP4Tokens(t *testing.T) {
	p := newPlace(t, 0, 1, 1)
	s := begun(t, p)
	put(t, p, counter("n", 1))
	wantToken(t, "the place goes on", s, 0)
	wantRead(t, "the place goes on", s, "n", api.Value{})
	if c, _ := mustCommit(t, s); !slices.Equal(c.When, []int{0}) {
		t.Errorf("When %v", c.When)
	}
}

// TestP1Anything: whatever is given, a call ends and does not panic, and the session goes on.
func TestP1Anything(t *testing.T) {
	texts := []string{"", "a", "A\x00", "\xff", string(make([]byte, 1000))}
	numbers := []int{math.MinInt, -1, 0, 1, math.MaxInt}
	p := newPlace(t, 0, 2, 2)
	s := newSession(t, 2)
	for _, open := range []bool{false, true} {
		if open {
			mustBegin(t, s, p)
		}
		for _, key := range texts {
			s.Read(key)
			for _, text := range texts {
				s.Set(key, text)
				s.Put(key, text)
				s.Drop(key, text)
			}
			for _, n := range numbers {
				s.Add(key, n)
			}
			s.Begin(newPlace(t, 0, 1, 1))
		}
	}
	mustCommit(t, s)
	for _, n := range numbers {
		session.New(n)
	}
	mustBegin(t, s, p)
	mustDo(t, s.Add("z", 1))
	wantRead(t, "behind all that", s, "z", isCounter(1))
}
