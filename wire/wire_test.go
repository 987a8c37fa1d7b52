package wire_test

import (
	"encoding/binary"
	"hash/crc32"
	"math"
	"math/rand"
	"reflect"
	"slices"
	"strings"
	"sync"
	"testing"

	"causeway/api"
	"causeway/plain"
	"causeway/wire"
)

// piece is a number or a text of what is told, with what it is.
type piece struct {
	name string
	n    int
	text string
	bare bool // a text's bytes, without how many
}

func (p piece) bytes() []byte {
	if p.bare {
		return []byte(p.text)
	}
	return binary.BigEndian.AppendUint64(nil, uint64(p.n))
}

func truth(b bool) int {
	if b {
		return 1
	}
	return 0
}

// pieces of a message, in the order of the document.
func pieces(m wire.Message) []piece {
	var l []piece
	number := func(name string, n int) { l = append(l, piece{name: name, n: n}) }
	text := func(name, s string) {
		number("size of "+name, len(s))
		l = append(l, piece{name: name, text: s, bare: true})
	}
	number("From", m.From)
	number("To", m.To)
	number("Shard", m.Shard)
	number("Seq", m.Seq)
	number("Time", m.Time)
	number("Beat", truth(m.Beat))
	number("count of When", len(m.C.When))
	for _, n := range m.C.When {
		number("When", n)
	}
	number("Place", m.C.Place)
	number("count of Ops", len(m.C.Ops))
	for _, o := range m.C.Ops {
		number("At", o.At)
		text("Key", o.Key)
		number("Kind", o.Kind)
		text("Text", o.Text)
		number("N", o.N)
		number("Remove", truth(o.Remove))
		number("count of Dots", len(o.Dots))
		for _, d := range o.Dots {
			number("dot's Place", d.Place)
			number("dot's Time", d.Time)
			number("dot's At", d.At)
		}
	}
	return l
}

func join(l []piece) string {
	var b []byte
	for _, p := range l {
		b = append(b, p.bytes()...)
	}
	return string(b)
}

// sealed is a text with its sum behind it.
func sealed(s string) string {
	return s + string(binary.BigEndian.AppendUint32(nil, crc32.ChecksumIEEE([]byte(s))))
}

// plainly: a nil list and an empty one are one thing.
func plainly(m wire.Message) wire.Message {
	m.C.When = append([]int(nil), m.C.When...)
	m.C.Ops = append([]api.Op(nil), m.C.Ops...)
	for i := range m.C.Ops {
		m.C.Ops[i].Dots = append([]api.Dot(nil), m.C.Ops[i].Dots...)
	}
	return m
}

func same(a, b wire.Message) bool {
	return reflect.DeepEqual(plainly(a), plainly(b))
}

func wantRefused(t *testing.T, name, s string, want error) {
	t.Helper()
	if m, err := wire.Decode(s); err != want || !same(m, wire.Message{}) {
		t.Errorf("%s: Decode = %#v, %v, want nothing and %v", name, m, err, want)
	}
}

func sample() wire.Message {
	return wire.Message{From: 1, To: 2, Shard: 3, Seq: 4, Time: 5, Beat: true, C: api.Commit{
		When:  []int{6, 7, 8},
		Place: 9,
		Ops: []api.Op{
			{At: 10, Key: "key", Kind: 11, Text: "text of it", N: 12, Remove: true, Dots: []api.Dot{{Place: 13, Time: 14, At: 15}, {Place: 16, Time: 17, At: 18}}},
			{},
			{At: -1, Key: "\x00\xff", Kind: -2, Text: "ä\xc3", N: -3, Dots: []api.Dot{{Place: -4, Time: -5, At: -6}}},
		},
	}}
}

func messages() []wire.Message {
	low, high := math.MinInt, math.MaxInt
	return []wire.Message{
		{},
		{Beat: true},
		{From: 1}, {To: 1}, {Shard: 1}, {Seq: 1}, {Time: 1},
		{From: low, To: high, Shard: -1, Seq: api.MaxTime, Time: -api.MaxTime},
		{C: api.Commit{When: []int{}, Ops: []api.Op{}}},
		{C: api.Commit{When: []int{0}}},
		{C: api.Commit{When: []int{low, high, 0, 1, -1, 255, 256, 1 << 32}, Place: low}},
		{C: api.Commit{Place: high, Ops: []api.Op{{}}}},
		{C: api.Commit{Ops: []api.Op{{Remove: true}, {Dots: []api.Dot{}}, {Dots: []api.Dot{{}}}}}},
		{C: api.Commit{Ops: []api.Op{{At: low, Kind: high, N: low, Dots: []api.Dot{{Place: low, Time: high, At: low}}}}}},
		{C: api.Commit{Ops: []api.Op{{Key: "k"}, {Text: "t"}, {Key: "", Text: strings.Repeat("\x00", 300)}}}},
		sample(),
	}
}

func TestP40Bytes(t *testing.T) {
	for i, m := range messages() {
		want := sealed(join(pieces(m)))
		if got, err := wire.Encode(m); err != nil || got != want {
			t.Errorf("message %d: Encode = %q, %v, want %q", i, got, err, want)
		}
	}
}

// The bytes written out, so that nothing hangs on how the test writes them.
func TestP40BytesByHand(t *testing.T) {
	seven := strings.Repeat("\x00", 7)
	m := wire.Message{From: -2, To: 0x0102030405060708, Shard: 3, Beat: true, C: api.Commit{When: []int{256}, Place: 5, Ops: []api.Op{{At: 1, Key: "ab", Kind: 2, Text: "c", N: 4, Remove: true, Dots: []api.Dot{{Place: 6, Time: 7, At: 8}}}}}}
	want := "\xff\xff\xff\xff\xff\xff\xff\xfe" + "\x01\x02\x03\x04\x05\x06\x07\x08" + seven + "\x03" + seven + "\x00" + seven + "\x00" + seven + "\x01" +
		seven + "\x01" + "\x00\x00\x00\x00\x00\x00\x01\x00" + seven + "\x05" +
		seven + "\x01" + seven + "\x01" + seven + "\x02ab" + seven + "\x02" + seven + "\x01c" + seven + "\x04" + seven + "\x01" +
		seven + "\x01" + seven + "\x06" + seven + "\x07" + seven + "\x08"
	got, err := wire.Encode(m)
	if err != nil || len(got) != len(want)+4 || got[:len(want)] != want {
		t.Fatalf("Encode = %q, %v, want %q and a sum", got, err, want)
	}
	if back, err := wire.Decode(got); err != nil || !same(back, m) {
		t.Errorf("Decode = %#v, %v, want %#v", back, err, m)
	}
}

// The remainder's well-known answer for the digits 1 to 9 is 0xCBF43926.
func TestP40Sum(t *testing.T) {
	wantRefused(t, "digits with their sum", "123456789\xcb\xf4\x39\x26", api.ErrText)
	wantRefused(t, "digits with their sum turned around", "123456789\x26\x39\xf4\xcb", api.ErrSum)
	wantRefused(t, "digits with the sum that is not turned at the end", "123456789\x34\x0b\xc6\xd9", api.ErrSum)
	wantRefused(t, "nothing, with its sum", "\x00\x00\x00\x00", api.ErrText)
	wantRefused(t, "nothing, with the sum that is not turned at the end", "\xff\xff\xff\xff", api.ErrSum)
	if got := wire.Remainder("123456789"); got != 0xCBF43926 {
		t.Errorf("Remainder of the digits = %#x", got)
	}
	for _, s := range []string{"", "a", "k0", "\x00", "\xff\xfe", strings.Repeat("z", 1000)} {
		if got, want := wire.Remainder(s), crc32.ChecksumIEEE([]byte(s)); got != want {
			t.Errorf("Remainder(%.20q) = %#x, want %#x", s, got, want)
		}
	}
}

func TestP40EncodeFull(t *testing.T) {
	op := func(key, text int, dots int) wire.Message {
		return wire.Message{C: api.Commit{Ops: []api.Op{{Key: strings.Repeat("k", key), Text: strings.Repeat("t", text), Dots: make([]api.Dot, dots)}}}}
	}
	times := func(n int, text int) wire.Message {
		m := op(0, text, 0)
		m.C.When = make([]int, n)
		return m
	}
	// Of one op without texts there are 132 bytes.
	for _, c := range []struct {
		name string
		m    wire.Message
		size int
	}{
		{"key", op(api.MaxWire-132, 0, 0), api.MaxWire},
		{"key", op(api.MaxWire-131, 0, 0), api.MaxWire + 1},
		{"key", op(api.MaxWire-130, 0, 0), api.MaxWire + 2},
		{"key", op(api.MaxWire-128, 0, 0), api.MaxWire + 4},
		{"key", op(api.MaxWire*100, 0, 0), api.MaxWire*100 + 132},
		{"text", op(0, api.MaxWire-133, 0), api.MaxWire - 1},
		{"text", op(0, api.MaxWire-132, 0), api.MaxWire},
		{"text", op(0, api.MaxWire-131, 0), api.MaxWire + 1},
		{"both", op(3000, api.MaxWire-3132, 0), api.MaxWire},
		{"both", op(3000, api.MaxWire-3131, 0), api.MaxWire + 1},
		{"dots", op(0, 12, 244), api.MaxWire},
		{"dots", op(0, 13, 244), api.MaxWire + 1},
		{"dots", op(0, 0, 245), api.MaxWire + 12},
		{"times", times(733, 4), api.MaxWire},
		{"times", times(733, 5), api.MaxWire + 1},
		{"times", times(734, 0), api.MaxWire + 4},
		{"ops", wire.Message{C: api.Commit{Ops: make([]api.Op, 105)}}, 105*56 + 76},
		{"ops", wire.Message{C: api.Commit{Ops: make([]api.Op, 106)}}, 106*56 + 76},
	} {
		if size := len(join(pieces(c.m))) + 4; size != c.size {
			t.Fatalf("%s: the test's message has %d bytes, not %d", c.name, size, c.size)
		}
		got, err := wire.Encode(c.m)
		if c.size <= api.MaxWire && (err != nil || len(got) != c.size) {
			t.Errorf("%s, %d bytes: Encode has %d, %v", c.name, c.size, len(got), err)
		}
		if c.size > api.MaxWire && (err != api.ErrFull || got != "") {
			t.Errorf("%s, %d bytes: Encode has %d, %v, want ErrFull", c.name, c.size, len(got), err)
		}
	}
}

// Ops that share their dots would be told in more bytes than there is time for.
func TestP1EncodeEnds(t *testing.T) {
	dots := make([]api.Dot, 1<<20)
	ops := make([]api.Op, 1<<20)
	for i := range ops {
		ops[i].Dots = dots
	}
	if got, err := wire.Encode(wire.Message{C: api.Commit{Ops: ops}}); err != api.ErrFull || got != "" {
		t.Errorf("Encode has %d bytes, %v, want ErrFull", len(got), err)
	}
	if got, err := wire.Encode(wire.Message{C: api.Commit{When: make([]int, 1<<24)}}); err != api.ErrFull || got != "" {
		t.Errorf("Encode has %d bytes, %v, want ErrFull", len(got), err)
	}
}

func TestP40DecodeSize(t *testing.T) {
	for _, s := range []string{"", "\x00", "ab", "\x00\x00\x00"} {
		wantRefused(t, "too short", s, api.ErrText)
	}
	wantRefused(t, "four bytes", "abcd", api.ErrSum)
	wantRefused(t, "as long as may be", strings.Repeat("x", api.MaxWire), api.ErrSum)
	wantRefused(t, "a byte too long", strings.Repeat("x", api.MaxWire+1), api.ErrText)
	wantRefused(t, "far too long", strings.Repeat("x", api.MaxWire*1000), api.ErrText)
	m := wire.Message{C: api.Commit{Ops: []api.Op{{Key: strings.Repeat("k", api.MaxWire-132)}}}}
	if got, err := wire.Decode(sealed(join(pieces(m)))); err != nil || !same(got, m) {
		t.Errorf("Decode of as many bytes as may be: %v", err)
	}
	m.C.Ops[0].Key += "k"
	wantRefused(t, "a message, a byte too long", sealed(join(pieces(m))), api.ErrText)
}

func TestP40DecodeSum(t *testing.T) {
	s, _ := wire.Encode(sample())
	for i := range s {
		for bit := range 8 {
			b := []byte(s)
			b[i] ^= 1 << bit
			wantRefused(t, "one bit turned", string(b), api.ErrSum)
		}
	}
	wantRefused(t, "a byte less", s[:len(s)-1], api.ErrSum)
	wantRefused(t, "the first byte missing", s[1:], api.ErrSum)
	wantRefused(t, "a byte more", s+"\x00", api.ErrSum)
	wantRefused(t, "a byte ahead", "\x00"+s, api.ErrSum)
	wantRefused(t, "no sum", s[:len(s)-4], api.ErrSum)
	wantRefused(t, "twice", s+s, api.ErrSum)
}

func TestP40DecodeCutOrLonger(t *testing.T) {
	told := join(pieces(sample()))
	for i := range told {
		wantRefused(t, "cut", sealed(told[:i]), api.ErrText)
	}
	for _, more := range []string{"\x00", "x", strings.Repeat("\x00", 8), strings.Repeat("\x00", 56), told} {
		wantRefused(t, "something behind", sealed(told+more), api.ErrText)
	}
	wantRefused(t, "something behind nothing", sealed(join(pieces(wire.Message{}))+"\x00"), api.ErrText)
	wantRefused(t, "the sum twice", sealed(sealed(told)), api.ErrText)
}

// A count, a size, or a 0 or 1 that is wrong: the rest cannot be read.
func TestP40DecodeWrongNumbers(t *testing.T) {
	wrong := []int{-1, 2, 3, 4, 255, 256, 1 << 8, 1 << 31, 1 << 32, 1 << 56, 1<<61 + 1, math.MaxInt, math.MinInt, math.MinInt + 1}
	for at, p := range pieces(sample()) {
		counts := strings.HasPrefix(p.name, "count") || strings.HasPrefix(p.name, "size")
		if !counts && p.name != "Beat" && p.name != "Remove" {
			continue
		}
		tries := slices.Clone(wrong)
		if counts {
			tries = append(tries, p.n-1, p.n+1)
		}
		for _, n := range tries {
			if n == p.n {
				continue
			}
			l := pieces(sample())
			l[at].n = n
			wantRefused(t, p.name, sealed(join(l)), api.ErrText)
		}
	}
}

// Every other number may be any: the message is not checked.
func TestP40DecodeAnyNumber(t *testing.T) {
	for at, p := range pieces(sample()) {
		if p.bare || strings.HasPrefix(p.name, "count") || strings.HasPrefix(p.name, "size") || p.name == "Beat" || p.name == "Remove" {
			continue
		}
		for _, n := range []int{0, -1, 77, math.MaxInt, math.MinInt, 1 << 40} {
			l := pieces(sample())
			l[at].n = n
			s := sealed(join(l))
			m, err := wire.Decode(s)
			if err != nil || join(pieces(m)) != join(l) {
				t.Errorf("%s = %d: Decode = %#v, %v", p.name, n, m, err)
			}
		}
	}
}

func TestP41Messages(t *testing.T) {
	for i, m := range messages() {
		s, err := wire.Encode(m)
		if err != nil {
			t.Fatalf("message %d: %v", i, err)
		}
		if got, err := wire.Decode(s); err != nil || !same(got, m) {
			t.Errorf("message %d: Decode = %#v, %v, want %#v", i, got, err, m)
		}
	}
}

func anyNumber(r *rand.Rand) int {
	switch r.Intn(4) {
	case 0:
		return r.Intn(5) - 1
	case 1:
		return int(r.Uint64())
	case 2:
		return int(uint64(1) << r.Intn(64))
	}
	return r.Intn(1000)
}

func anyText(r *rand.Rand, most int) string {
	b := make([]byte, r.Intn(most+1))
	r.Read(b)
	return string(b)
}

func anyMessage(r *rand.Rand) wire.Message {
	m := wire.Message{From: anyNumber(r), To: anyNumber(r), Shard: anyNumber(r), Seq: anyNumber(r), Time: anyNumber(r), Beat: r.Intn(2) == 0}
	for range r.Intn(8) {
		m.C.When = append(m.C.When, anyNumber(r))
	}
	m.C.Place = anyNumber(r)
	for range r.Intn(13) {
		o := api.Op{At: anyNumber(r), Key: anyText(r, 20), Kind: anyNumber(r), Text: anyText(r, 70), N: anyNumber(r), Remove: r.Intn(2) == 0}
		for range r.Intn(25) {
			o.Dots = append(o.Dots, api.Dot{Place: anyNumber(r), Time: anyNumber(r), At: anyNumber(r)})
		}
		m.C.Ops = append(m.C.Ops, o)
	}
	return m
}

func TestP41AnyMessage(t *testing.T) {
	r := rand.New(rand.NewSource(41))
	full := 0
	for range 3000 {
		m := anyMessage(r)
		want := sealed(join(pieces(m)))
		s, err := wire.Encode(m)
		if len(want) > api.MaxWire {
			full++
			if err != api.ErrFull || s != "" {
				t.Fatalf("Encode of %d bytes: %v, want ErrFull", len(want), err)
			}
			continue
		}
		if err != nil || s != want {
			t.Fatalf("Encode(%#v) = %q, %v, want %q", m, s, err, want)
		}
		if got, err := wire.Decode(s); err != nil || !same(got, m) {
			t.Fatalf("Decode = %#v, %v, want %#v", got, err, m)
		}
	}
	if full == 0 {
		t.Error("no message was too long")
	}
}

// What is decoded is just what is encoded: no other bytes are taken.
func TestP40DecodeTakesNothingElse(t *testing.T) {
	r := rand.New(rand.NewSource(40))
	taken := 0
	for range 20000 {
		m := anyMessage(r)
		if len(m.C.Ops) > 3 {
			m.C.Ops = m.C.Ops[:3]
		}
		b := []byte(join(pieces(m)))
		for range r.Intn(3) {
			b[r.Intn(len(b))] = byte(r.Intn(4))
		}
		if r.Intn(3) == 0 {
			b = b[:r.Intn(len(b))]
		}
		s := sealed(string(b))
		got, err := wire.Decode(s)
		if err != nil {
			if err != api.ErrText || !same(got, wire.Message{}) {
				t.Fatalf("Decode(%q) = %#v, %v, want nothing and ErrText", s, got, err)
			}
			continue
		}
		taken++
		if back, err := wire.Encode(got); err != nil || back != s {
			t.Fatalf("Decode took %q, which is %#v, and that is %q, %v", s, got, back, err)
		}
	}
	if taken == 0 || taken == 20000 {
		t.Errorf("%d of 20000 were taken", taken)
	}
}

func TestP1WhateverIsGiven(t *testing.T) {
	r := rand.New(rand.NewSource(1))
	for range 20000 {
		s := anyText(r, 200)
		wire.Decode(s)
		wire.Decode(sealed(s))
	}
	for b := range 256 {
		wantRefused(t, "one byte again and again", sealed(strings.Repeat(string([]byte{byte(b)}), 5001)), api.ErrText)
	}
}

func TestP2SideBySide(t *testing.T) {
	m := sample()
	want, _ := wire.Encode(m)
	var all sync.WaitGroup
	for range 8 {
		all.Go(func() {
			for range 50 {
				s, err := wire.Encode(m)
				got, err2 := wire.Decode(s)
				if s != want || err != nil || err2 != nil || !same(got, m) {
					t.Errorf("side by side: %q, %v, %#v, %v", s, err, got, err2)
				}
			}
		})
	}
	all.Wait()
}

func TestP3ErrorsAreBare(t *testing.T) {
	_, full := wire.Encode(wire.Message{C: api.Commit{When: make([]int, api.MaxWire)}})
	_, short := wire.Decode("")
	_, sum := wire.Decode("abcd")
	_, none := wire.Decode(sealed("abcd"))
	for i, c := range []struct{ got, want error }{{full, api.ErrFull}, {short, api.ErrText}, {sum, api.ErrSum}, {none, api.ErrText}} {
		got, gotAt := plain.Code(c.got)
		want, wantAt := plain.Code(c.want)
		if c.got != c.want || got != want || gotAt != wantAt {
			t.Errorf("error %d: %v, want %v, bare", i, c.got, c.want)
		}
	}
}

// What lies behind a list's length is neither read nor written.
func TestP3BehindLists(t *testing.T) {
	when := []int{1, 2, 91}
	dots := []api.Dot{{Place: 1}, {Place: 92}}
	ops := []api.Op{{Key: "k", Dots: dots[:1]}, {Key: "behind"}}
	m := wire.Message{C: api.Commit{When: when[:2], Ops: ops[:1]}}
	s, err := wire.Encode(m)
	if want := sealed(join(pieces(m))); err != nil || s != want {
		t.Errorf("Encode = %q, %v, want %q", s, err, want)
	}
	if when[2] != 91 || dots[1].Place != 92 || ops[1].Key != "behind" {
		t.Error("something behind a list was written")
	}
}

func TestP4MemoryStaysApart(t *testing.T) {
	m := sample()
	s, _ := wire.Encode(m)
	if !reflect.DeepEqual(m, sample()) {
		t.Error("Encode changed what it was given")
	}
	first, _ := wire.Decode(s)
	second, _ := wire.Decode(s)
	first.C.When[0] = 99
	_ = append(first.C.When[:1], 98)
	first.C.Ops[0].Dots[0].Place = 97
	first.C.Ops[1] = api.Op{Key: "other"}
	first.C.Ops[1].Dots = append(first.C.Ops[0].Dots, api.Dot{Place: 96})
	if third, _ := wire.Decode(s); !same(second, sample()) || !same(third, sample()) {
		t.Error("what was written into one answer shows in another one")
	}
	_ = append(second.C.Ops[0].Dots, api.Dot{Place: 95})
	_ = append(second.C.When, 94)
	if !same(second, sample()) {
		t.Error("two lists of one answer share memory")
	}
}

func TestP4CopyStaysApart(t *testing.T) {
	for i, m := range messages() {
		if got := wire.Copy(m); !same(got, m) {
			t.Errorf("message %d: Copy = %#v, want %#v", i, got, m)
		}
		if got := wire.CopyCommit(m.C); !same(wire.Message{C: got}, wire.Message{C: m.C}) {
			t.Errorf("message %d: CopyCommit = %#v, want %#v", i, got, m.C)
		}
	}
	m := sample()
	m.C.Ops[1].Dots = m.C.Ops[0].Dots
	want, _ := wire.Encode(m)
	for _, c := range []api.Commit{wire.Copy(m).C, wire.CopyCommit(m.C)} {
		c.When[0] = 99
		c.Ops[0].Dots[0].Place = 98
		c.Ops[2] = api.Op{Key: "other"}
		if got, _ := wire.Encode(m); got != want {
			t.Error("what was written into a copy shows in what was copied")
		}
		if c.Ops[1].Dots[0].Place != 13 {
			t.Error("two lists of one copy share memory")
		}
	}
}
