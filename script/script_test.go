package script_test

import (
	"slices"
	"strconv"
	"strings"
	"testing"

	"causeway/api"
	"causeway/script"
)

func run(t *testing.T, lines []string) []string {
	t.Helper()
	told, err := script.Run(lines)
	if err != nil || len(told) != len(lines) {
		t.Fatalf("%d lines: %d answers, %v", len(lines), len(told), err)
	}
	return told
}

// wantTold of a script: each line of it is a command, ` = ` and its answer; an answer with `!` ahead is the text of an error.
func wantTold(t *testing.T, told string) {
	t.Helper()
	var lines, want []string
	for row := range strings.SplitSeq(strings.TrimSpace(told), "\n") {
		line, answer, _ := strings.Cut(strings.TrimSpace(row), " = ")
		if rest, is := strings.CutPrefix(answer, "!"); is {
			answer = "causeway: " + rest
		}
		lines, want = append(lines, line), append(want, answer)
	}
	for i, got := range run(t, lines) {
		if got != want[i] {
			t.Errorf("number %d, %q: %q, want %q", i, lines[i], got, want[i])
		}
	}
}

// each command, in words that are right.
var each = []string{
	"world 2 1", "begin 0 0", "set 0 k x", "add 0 k 5", "put 0 k x", "drop 0 k x", "commit 0", "abort 0", "read 0 k",
	"go 0", "lose 0", "twice 0", "beat 0", "again 0", "prune 0", "all", "settle", "snapshot 0", "token 0", "fly", "check",
}

func TestP120Lines(t *testing.T) {
	for _, n := range []int{0, 1, api.MaxLines - 1, api.MaxLines} {
		lines := slices.Repeat([]string{"fly"}, n)
		if n > 0 {
			lines[0] = "world 1 1"
		}
		for i, told := range run(t, lines) {
			if want := []string{"ok", "0"}[min(i, 1)]; told != want {
				t.Errorf("number %d of %d: %q, want %q", i, n, told, want)
			}
		}
	}
	for _, n := range []int{api.MaxLines + 1, 2 * api.MaxLines, 100000} {
		if told, err := script.Run(slices.Repeat([]string{"world 1 1"}, n)); len(told) != 0 || err != api.ErrBound {
			t.Errorf("%d lines: %v, %v, want %v, bare", n, told, err, api.ErrBound)
		}
	}
	if told, err := script.Run(nil); len(told) != 0 || err != nil {
		t.Errorf("no lines: %v, %v", told, err)
	}
}

func TestP120Worlds(t *testing.T) {
	var lines []string
	for places := 1; places <= api.MaxPlaces; places++ {
		lines = append(lines, "world "+strconv.Itoa(places)+" 6", "snapshot "+strconv.Itoa(places-1), "snapshot "+strconv.Itoa(places))
	}
	for i, told := range run(t, lines) {
		want := []string{"ok", strings.Repeat(".0", i/3+1)[1:], "causeway: bound"}[i%3]
		if told != want {
			t.Errorf("%q: %q, want %q", lines[i], told, want)
		}
	}
	// Places come first: of two places and 6 shards a beat goes by 6 streams, of 6 and 2 by 10.
	wantTold(t, `
		world 2 6 = ok
		beat 0 = ok
		fly = 6
		world 6 2 = ok
		fly = 0
		beat 0 = ok
		fly = 10`)
	// A new one knows nothing of the one ahead, and has nothing open.
	wantTold(t, `
		world 1 1 = ok
		begin 0 0 = ok
		add 0 n 1 = ok
		commit 0 = ok
		begin 1 0 = ok
		world 1 1 = ok
		abort 1 = !none
		token 0 = 0
		begin 1 0 = ok
		read 1 n = nothing`)
}

func TestP120Values(t *testing.T) {
	wantTold(t, `
		world 1 1 = ok
		begin 3 0 = ok
		read 3 r = nothing
		set 3 r first = ok
		read 3 r = first
		set 3 r 2nd = ok
		read 3 r = 2nd
		read 3 n = nothing
		add 3 n 0 = ok
		read 3 n = 0
		add 3 n 99999 = ok
		add 3 n 99999 = ok
		read 3 n = 199998
		put 3 s b = ok
		put 3 s 10 = ok
		put 3 s a = ok
		put 3 s b = ok
		read 3 s = 10,a,b
		commit 3 = ok
		begin 3 0 = ok
		read 3 r = 2nd
		read 3 n = 199998
		read 3 s = 10,a,b
		drop 3 s b = ok
		read 3 s = 10,a
		drop 3 s 10 = ok
		read 3 s = a
		drop 3 s a = ok
		read 3 s = nothing
		put 3 s b = ok
		read 3 s = b
		abort 3 = ok
		begin 3 0 = ok
		read 3 s = 10,a,b
		drop 3 s a = ok
		drop 3 s b = ok
		drop 3 s 10 = ok
		drop 3 s c = ok
		commit 3 = ok
		begin 4 0 = ok
		read 4 s = nothing
		drop 4 z a = ok
		read 4 z = nothing
		commit 4 = ok
		check = ok`)
}

// TestP120Sessions: they are told apart, each has its own transaction, and a place is the second number.
func TestP120Sessions(t *testing.T) {
	wantTold(t, `
		world 3 2 = ok
		begin 7 2 = ok
		begin 0 1 = ok
		set 7 k x = ok
		read 0 k = nothing
		read 7 k = x
		commit 7 = ok
		token 7 = 0.0.1
		token 0 = 0.0.0
		snapshot 2 = 0.0.1
		snapshot 0 = 0.0.0
		abort 0 = ok
		begin 7 0 = !wait
		begin 0 2 = ok
		token 0 = 0.0.1
		begin 7 2 = ok
		begin 7 1 = !held
		commit 7 = ok
		commit 7 = !none
		abort 7 = !none`)
}

func TestP120Messages(t *testing.T) {
	wantTold(t, `
		world 3 1 = ok
		fly = 0
		all = 0
		begin 0 0 = ok
		add 0 n 1 = ok
		commit 0 = ok
		fly = 2
		go 2 = !none
		go 1 = ok
		fly = 2
		snapshot 2 = 1.0.0
		snapshot 1 = 0.0.0
		lose 0 = ok
		fly = 1
		go 0 = ok
		fly = 0
		lose 0 = !none
		twice 0 = !none
		go 0 = !none
		again 0 = ok
		fly = 1
		twice 0 = ok
		twice 1 = ok
		fly = 3
		all = 6
		snapshot 1 = 1.0.0
		again 0 = ok
		fly = 0
		beat 1 = ok
		fly = 2
		again 1 = ok
		fly = 4
		again 2 = ok
		fly = 4
		go 99999 = !none
		lose 99999 = !none
		twice 99999 = !none`)
}

// TestP120Full: a message may be doubled until MaxFlying fly.
func TestP120Full(t *testing.T) {
	lines := []string{"world 2 6"}
	for range 33 {
		lines = append(lines, "beat 0")
	}
	lines = append(lines, "fly", "twice 0", "twice 0", "twice 0", "fly", "beat 0", "fly", "all", "fly", "settle")
	want := []string{"198", "ok", "ok", "causeway: full", "200", "ok", "200", "400", "0", "0"}
	if told := run(t, lines); !slices.Equal(told[34:], want) {
		t.Errorf("%v, want %v", told[34:], want)
	}
}

func TestP120Settle(t *testing.T) {
	wantTold(t, `
		world 3 2 = ok
		settle = 0
		begin 0 1 = ok
		put 0 s a = ok
		add 0 n 2 = ok
		commit 0 = ok
		settle = 1
		fly = 0
		settle = 0
		snapshot 0 = 0.1.0
		snapshot 2 = 0.1.0
		begin 0 2 = ok
		read 0 s = a
		read 0 n = 2`)
}

func TestP120Prune(t *testing.T) {
	wantTold(t, `
		world 2 1 = ok
		begin 1 1 = ok
		begin 0 0 = ok
		set 0 k x = ok
		commit 0 = ok
		begin 0 0 = ok
		set 0 k y = ok
		commit 0 = ok
		begin 2 0 = ok
		all = 4
		prune 0 = ok
		prune 1 = ok
		read 1 k = nothing
		read 2 k = y
		abort 1 = ok
		abort 2 = ok
		prune 0 = ok
		begin 1 1 = ok
		read 1 k = y
		commit 1 = ok
		prune 2 = !bound
		check = ok`)
}

// right lines stay so with all letters, all digits and numbers of five digits.
func TestP120Words(t *testing.T) {
	wantTold(t, `
		world 1 1 = ok
		begin 0 0 = ok
		set 0 abcdefghijklmnop qrstuvwxyz0123456789 = ok
		read 0 abcdefghijklmnop = qrstuvwxyz0123456789
		set 0 0123456789 0 = ok
		read 0 0123456789 = 0
		put 0 world world = ok
		read 0 world = world
		add 0 10 10000 = ok
		read 0 10 = 10000
		go 10000 = !none
		add 0 10 99999 = ok
		read 0 10 = 109999`)
}

// wrongLines are none, whatever was said ahead of them.
func wrongLines() []string {
	l := []string{
		"", " ", "  ", "what", "World 2 1", "BEGIN 0 0", "beg 0 0", "begins 0 0", "world", "world 2", "world 2 1 1", "world -2 1", "world 2 01", "world 00 1", "world 100000 1", "world x 1", "world +2 1", "world 2 0x1", "world 1_0 1", "world 2.0 1",
		"begin 10 0", "begin 0 10", "begin 00 0", "begin x 0", "begin 0 x", "begin -1 0", "begin 0", "begin", "begin 0 0 0", "begin ٣ 0", "begin 0 ٣",
		"set 0 k", "set 0 K x", "set 0 k X", "set 0 k x y", "set 0 k-k x", "set 0 k x-y", "set 0 k x,y", "set 0 k_ x", "set 0 é x", "set 0 k é", "set 0 k \xff", "set 0 k\x00 x", "set 0  x", "set k x", "set x k 0", "set 10 k x",
		"add 0 n -5", "add 0 n +5", "add 0 n 05", "add 0 n 00", "add 0 n 100000", "add 0 n 99999999999999999999", "add 0 n", "add 0 n x", "add 0 n 5x", "add 0 5", "add 10 n 5", "add 0 n 1e3", "add 0 N 5",
		"put 0 s", "put 0 s A", "put 10 s a", "put 0 s a b", "drop 0 s", "drop 0 S a", "drop 0 s a b", "drop a s a",
		"commit", "commit 00", "commit x", "commit 0 0", "abort", "abort 10", "abort -", "read 0", "read 0 K", "read 0 k k", "read 10 k", "read k", "read k 0x",
		"go", "go 00", "go x", "go -1", "go 0 0", "go 100000", "lose", "lose 01", "lose x", "twice", "twice 01", "twice 0 1",
		"beat", "beat 10", "beat x", "again", "again 00", "again 0 0", "prune", "prune 10", "prune -1", "snapshot", "snapshot 10", "token", "token 00", "token x",
		"all 0", "all x", "settle 1", "fly 0", "check 0", "fly fly", strings.Repeat(" ", 5000), strings.Repeat("0", 5000), "go " + strings.Repeat("0", 5000), "begin 0 " + strings.Repeat("1", 5000),
	}
	for _, line := range each {
		l = append(l, line+" ", " "+line, line+"\n", line+"\t", line+"\r", "\ufeff"+line, strings.ToUpper(line), strings.ToUpper(line[:1])+line[1:], line+" 0 0 0", line+"\x00")
		if strings.Contains(line, " ") {
			l = append(l, strings.Replace(line, " ", "  ", 1), strings.Replace(line, " ", "\t", 1), strings.Replace(line, " ", "", 1), line[:strings.LastIndex(line, " ")], line[:strings.LastIndex(line, " ")+1], strings.Replace(line, " ", "\u00a0", 1))
		}
	}
	return l
}

// TestP121Text: a line that is none is told so with a world and without one, and does nothing.
func TestP121Text(t *testing.T) {
	for _, wrong := range wrongLines() {
		told := run(t, []string{wrong, "world 2 1", wrong, "begin 0 0", wrong, "add 0 n 7", wrong, "read 0 n", "commit 0", wrong, "fly", "begin 0 0", wrong, "read 0 n"})
		want := []string{"causeway: text", "ok", "causeway: text", "ok", "causeway: text", "ok", "causeway: text", "7", "ok", "causeway: text", "1", "ok", "causeway: text", "7"}
		if !slices.Equal(told, want) {
			t.Errorf("%.40q: %q", wrong, told)
		}
	}
}

// TestP121None: without a world none but `world` is done, also where something else would be wrong.
func TestP121None(t *testing.T) {
	long := strings.Repeat("k", api.MaxText+1)
	lines := append(slices.Clone(each[1:]), "begin 9 9", "set 9 k x", "set 0 "+long+" "+long, "add 8 "+long+" 99999", "read 9 "+long, "go 99999", "beat 9", "prune 9", "snapshot 9", "token 9", "commit 9", "world 0 0", "world 99999 1", "world 1 7", "fly", "world 1 1", "fly")
	want := slices.Repeat([]string{"causeway: none"}, len(lines)-6)
	want = append(want, "causeway: bound", "causeway: bound", "causeway: bound", "causeway: none", "ok", "0")
	for i, told := range run(t, lines) {
		if told != want[i] {
			t.Errorf("%.40q: %q, want %q", lines[i], told, want[i])
		}
	}
}

// TestP121Packages: errors of the packages, in their order.
func TestP121Packages(t *testing.T) {
	wantTold(t, strings.NewReplacer("KEY17", strings.Repeat("k", api.MaxName+1), "KEY16", strings.Repeat("k", api.MaxName), "TEXT61", strings.Repeat("t", api.MaxText+1), "TEXT60", strings.Repeat("t", api.MaxText)).Replace(`
		world 2 1 = ok
		begin 8 2 = !bound
		begin 7 2 = !bound
		begin 8 0 = !bound
		begin 9 9 = !bound
		set 8 KEY17 x = !bound
		add 9 KEY17 1 = !bound
		put 8 KEY17 x = !bound
		drop 8 KEY17 x = !bound
		read 8 KEY17 = !bound
		commit 8 = !bound
		abort 9 = !bound
		token 8 = !bound
		beat 2 = !bound
		again 2 = !bound
		prune 2 = !bound
		snapshot 2 = !bound
		set 0 KEY17 TEXT61 = !none
		add 0 KEY17 1 = !none
		put 0 KEY17 TEXT61 = !none
		drop 0 KEY17 TEXT61 = !none
		read 0 KEY17 = !none
		commit 0 = !none
		abort 0 = !none
		begin 0 1 = ok
		begin 0 2 = !bound
		begin 0 0 = !held
		set 0 KEY17 TEXT61 = !name
		add 0 KEY17 1 = !name
		put 0 KEY17 x = !name
		drop 0 KEY17 x = !name
		read 0 KEY17 = !name
		set 0 KEY16 TEXT61 = !bound
		put 0 KEY16 TEXT61 = !bound
		drop 0 KEY16 TEXT61 = !bound
		read 0 KEY16 = nothing
		set 0 KEY16 TEXT60 = ok
		read 0 KEY16 = TEXT60
		add 0 KEY16 5 = ok
		put 0 KEY16 x = ok
		read 0 KEY16 = TEXT60
		world 0 1 = !bound
		world 7 1 = !bound
		world 1 0 = !bound
		world 1 7 = !bound
		world 99999 99999 = !bound
		read 0 KEY16 = TEXT60
		commit 0 = ok
		fly = 1
		begin 0 0 = !wait
		begin 1 0 = ok
		check = ok`))
}

// TestP121Full: a transaction has MaxOps ops, and stays open with one more.
func TestP121Full(t *testing.T) {
	lines := []string{"world 1 1", "begin 0 0"}
	for range api.MaxOps {
		lines = append(lines, "add 0 n 1")
	}
	lines = append(lines, "set 0 k x", "add 0 n 1", "put 0 s x", "drop 0 s x", "read 0 n", "commit 0", "begin 0 0", "read 0 n", "read 0 k")
	want := []string{"causeway: full", "causeway: full", "causeway: full", "causeway: full", "12", "ok", "ok", "12", "nothing"}
	if told := run(t, lines); !slices.Equal(told[2+api.MaxOps:], want) {
		t.Errorf("%q, want %q", told, want)
	}
}

// TestP4Lines are only read; what lies behind them is not.
func TestP4Lines(t *testing.T) {
	lines := append(slices.Clone(each), "what", "what")
	kept := slices.Clone(lines)
	first := run(t, lines[:len(each)])
	if !slices.Equal(lines, kept) {
		t.Errorf("%q", lines)
	}
	// What is written into one answer is not seen in another one.
	want := slices.Clone(first)
	second := run(t, lines[:len(each)])
	first[0] = "changed"
	if !slices.Equal(second, want) {
		t.Errorf("%q, want %q", second, want)
	}
}
