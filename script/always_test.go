package script_test

import (
	"fmt"
	"math/rand"
	"reflect"
	"regexp"
	"slices"
	"strconv"
	"strings"
	"sync"
	"testing"

	"causeway/api"
	"causeway/judge"
	"causeway/play"
	"causeway/script"
	"causeway/values"
	"causeway/vector"
	"causeway/world"
)

// shapes of lines: a second telling of what a command is.
var shapes = func() []*regexp.Regexp {
	const n = `(0|[1-9][0-9]{0,4})`
	var l []*regexp.Regexp
	for _, s := range []string{
		`world N N`, `begin S S`, `set S T T`, `add S T N`, `put S T T`, `drop S T T`, `commit S`, `abort S`, `read S T`,
		`go N`, `lose N`, `twice N`, `beat S`, `again S`, `prune S`, `all`, `settle`, `snapshot S`, `token S`, `fly`, `check`,
	} {
		l = append(l, regexp.MustCompile(`\A`+strings.NewReplacer("S", `([0-9])`, "N", n, "T", `([a-z0-9]+)`).Replace(s)+`\z`))
	}
	return l
}()

// toldOf lines, by a world: a second telling.
func toldOf(lines []string) []string {
	var w *world.World
	var out []string
	places := 0
	for _, line := range lines {
		if !slices.ContainsFunc(shapes, func(r *regexp.Regexp) bool { return r.MatchString(line) }) {
			out = append(out, api.ErrText.Error())
			continue
		}
		f := strings.Fields(line)
		if f[0] == "world" {
			made, err := world.New(num(f[1]), num(f[2]))
			if err == nil {
				w, places = made, num(f[1])
			}
			out = append(out, okOr(err))
			continue
		}
		if w == nil {
			out = append(out, api.ErrNone.Error())
			continue
		}
		out = append(out, toldIn(w, places, f))
	}
	return out
}

func num(s string) int {
	n, _ := strconv.Atoi(s)
	return n
}

func okOr(err error) string {
	if err != nil {
		return err.Error()
	}
	return "ok"
}

func toldIn(w *world.World, places int, f []string) string {
	n := 0
	if len(f) > 1 {
		n = num(f[1])
	}
	switch f[0] {
	case "begin":
		return okOr(w.Begin(n, num(f[2])))
	case "set":
		return okOr(w.Write(n, api.Op{Key: f[2], Kind: api.Register, Text: f[3]}))
	case "add":
		return okOr(w.Write(n, api.Op{Key: f[2], Kind: api.Counter, N: num(f[3])}))
	case "put", "drop":
		return okOr(w.Write(n, api.Op{Key: f[2], Kind: api.Set, Text: f[3], Remove: f[0] == "drop"}))
	case "commit":
		return okOr(w.Commit(n))
	case "abort":
		return okOr(w.Abort(n))
	case "read":
		v, err := w.Read(n, f[2])
		if err != nil {
			return err.Error()
		}
		return spelt(v)
	case "go":
		return okOr(w.Deliver(n))
	case "lose":
		return okOr(w.Drop(n))
	case "twice":
		return okOr(w.Twice(n))
	case "beat":
		return okOr(w.Beat(n))
	case "again":
		return okOr(w.Again(n))
	case "prune":
		return okOr(w.Prune(n))
	case "all":
		come := 0
		for len(w.Flying()) > 0 {
			w.Deliver(0)
			come++
		}
		return fmt.Sprint(come)
	case "settle":
		return fmt.Sprint(play.Settle(w))
	case "snapshot":
		at, err := w.Snapshot(n)
		if err != nil {
			return err.Error()
		}
		return strings.ReplaceAll(strings.Trim(fmt.Sprint(at), "[]"), " ", ".")
	case "token":
		at, err := w.Token(n)
		if err != nil {
			return err.Error()
		}
		return strings.ReplaceAll(strings.Trim(fmt.Sprint(at), "[]"), " ", ".")
	case "fly":
		return fmt.Sprint(len(w.Flying()))
	}
	return okOr(judge.Check(places, w.Events()))
}

func spelt(v api.Value) string {
	switch {
	case v.Kind == api.Register && v.Text != "":
		return v.Text
	case v.Kind == api.Counter:
		return fmt.Sprint(v.N)
	case v.Kind == api.Set && len(v.Set) > 0:
		return strings.Join(v.Set, ",")
	}
	return "nothing"
}

// anyLine of a script; some of them are wrong.
func anyLine(r *rand.Rand) string {
	names := strings.Fields("begin begin begin begin begin set set add add put put put put drop drop read read read read commit commit abort go go go all lose twice beat again prune settle snapshot token fly check world what")
	name := names[r.Intn(len(names))]
	s, p, n := r.Intn(2), r.Intn(3), r.Intn(6)
	key := map[string]string{"set": "r", "add": "n", "put": "s", "drop": "s"}[name]
	if key == "" || r.Intn(8) == 0 {
		key = []string{"r", "n", "s"}[r.Intn(3)]
	}
	if r.Intn(20) == 0 {
		s, p, n = r.Intn(12), r.Intn(12), r.Intn(200000)
		key = []string{"K", strings.Repeat("k", 15+r.Intn(4)), "-", ""}[r.Intn(4)]
	}
	switch name {
	case "begin":
		return fmt.Sprint(name, " ", s, " ", p)
	case "set", "put", "drop":
		return fmt.Sprint(name, " ", s, " ", key, " ", string(rune('a'+r.Intn(3))))
	case "add":
		return fmt.Sprint(name, " ", s, " ", key, " ", n)
	case "read":
		return fmt.Sprint(name, " ", s, " ", key)
	case "commit", "abort", "token":
		return fmt.Sprint(name, " ", s)
	case "go", "lose", "twice":
		return fmt.Sprint(name, " ", n)
	case "beat", "again", "prune", "snapshot":
		return fmt.Sprint(name, " ", p)
	case "world":
		if r.Intn(8) > 0 {
			return "fly"
		}
		return fmt.Sprint(name, " ", r.Intn(8), " ", r.Intn(8))
	}
	return name
}

func anyScript(r *rand.Rand, n int) []string {
	lines := []string{fmt.Sprint("world ", 1+r.Intn(4), " ", 1+r.Intn(3))}
	for len(lines) < n {
		lines = append(lines, anyLine(r))
	}
	return lines
}

// TestP120AsTheWorld: what is told is what a world tells, and its events are causal.
func TestP120AsTheWorld(t *testing.T) {
	r := rand.New(rand.NewSource(120))
	count := map[string]int{}
	for range 1500 {
		lines := anyScript(r, 1+r.Intn(api.MaxLines))
		told := run(t, lines)
		for i, want := range toldOf(lines) {
			if told[i] != want {
				t.Fatalf("%q\nnumber %d, %q: %q, want %q", lines[:i], i, lines[i], told[i], want)
			}
			count[told[i]]++
			if lines[i] == "check" && told[i] != "ok" && told[i] != "causeway: none" {
				t.Errorf("%q: %q", lines[:i], told[i])
			}
		}
	}
	// Scripts of which nothing comes would hold nothing.
	for _, want := range []string{"ok", "nothing", "a,b", "a,b,c", "causeway: wait", "causeway: held", "causeway: none", "causeway: text", "causeway: bound", "causeway: name"} {
		if count[want] < 5 {
			t.Errorf("%q is told %d times", want, count[want])
		}
	}
}

// TestP1AnyBytes: whatever the bytes of a line, it is told as the shapes have it.
func TestP1AnyBytes(t *testing.T) {
	r := rand.New(rand.NewSource(1))
	const letters = "  0019xkK-\x00\xff\n"
	for range 1500 {
		lines := anyScript(r, api.MaxLines)
		for i := range lines {
			b := []byte(lines[i])
			for range r.Intn(3) {
				at := r.Intn(len(b) + 1)
				c := letters[r.Intn(len(letters))]
				if r.Intn(2) == 0 || at == len(b) {
					b = slices.Insert(b, at, c)
				} else {
					b[at] = c
				}
			}
			lines[i] = string(b)
		}
		if told, want := run(t, lines), toldOf(lines); !slices.Equal(told, want) {
			t.Fatalf("%q\n%q, want\n%q", lines, told, want)
		}
	}
}

// TestP2Same: the same lines are told the same, also side by side.
func TestP2Same(t *testing.T) {
	r := rand.New(rand.NewSource(2))
	var all sync.WaitGroup
	for range 60 {
		lines := anyScript(r, api.MaxLines)
		want := run(t, lines)
		for range 4 {
			all.Go(func() {
				if told, err := script.Run(lines); err != nil || !slices.Equal(told, want) {
					t.Errorf("%q: %q, %v, want %q", lines, told, err, want)
				}
			})
		}
	}
	all.Wait()
}

// log is what lines and their answers alone tell of transactions: a second telling, without a world.
type log struct {
	open map[string]*api.Commit
	done []api.Commit
}

func (l *log) hear(t *testing.T, lines, told []string) {
	t.Helper()
	for i, line := range lines {
		f := strings.Fields(line)
		if told[i] != "ok" || len(f) < 2 {
			continue
		}
		switch s := f[1]; f[0] {
		case "begin":
			l.open[s] = &api.Commit{When: vectorOf(t, told[i+1]), Place: num(f[2])}
		case "abort":
			delete(l.open, s)
		case "commit":
			c := l.open[s]
			delete(l.open, s)
			if c.When = vectorOf(t, told[i+1]); len(c.Ops) > 0 {
				l.done = append(l.done, *c)
			}
		case "set":
			l.op(t, s, api.Op{Key: f[2], Kind: api.Register, Text: f[3]})
		case "add":
			l.op(t, s, api.Op{Key: f[2], Kind: api.Counter, N: num(f[3])})
		case "put":
			l.op(t, s, api.Op{Key: f[2], Kind: api.Set, Text: f[3]})
		case "drop":
			l.op(t, s, api.Op{Key: f[2], Kind: api.Set, Text: f[3], Remove: true, Dots: l.dots(t, f[2], f[3], l.open[s].When)})
		}
	}
}

func (l *log) op(t *testing.T, s string, o api.Op) {
	t.Helper()
	c := l.open[s]
	o.At = len(c.Ops)
	c.Ops = append(c.Ops, o)
}

func (l *log) dots(t *testing.T, key, text string, at []int) []api.Dot {
	t.Helper()
	var seen []api.Commit
	for _, c := range l.done {
		if in, err := vector.Within(c.When, at); err == nil && in {
			seen = append(seen, c)
		}
	}
	dots, err := values.Dots(key, text, seen)
	if err != nil {
		t.Fatal(err)
	}
	return dots
}

func vectorOf(t *testing.T, s string) []int {
	t.Helper()
	v, err := vector.Read(s)
	if err != nil {
		t.Fatalf("%q: %v", s, err)
	}
	return v
}

// doings: lines of transactions and messages, in one world of so many places; behind each begin and commit the session's token is asked for.
func doings(r *rand.Rand, places, shards, n int) []string {
	lines := []string{fmt.Sprint("world ", places, " ", shards)}
	var begun [2]bool
	for len(lines) < n {
		s := r.Intn(2)
		token := fmt.Sprint("token ", s)
		text := string(rune('a' + r.Intn(3)))
		switch what := r.Intn(20); {
		case what < 7:
			lines = append(lines, []string{"go 0", "go 1", "go 2", "all", "lose 0", "lose 1", "twice 0", "twice 1", "beat 0", "again 0", fmt.Sprint("beat ", r.Intn(places)), fmt.Sprint("prune ", r.Intn(places))}[r.Intn(12)])
		case !begun[s]:
			lines = append(lines, fmt.Sprint("begin ", s, " ", r.Intn(places)), token)
			begun[s] = true
		case what < 8:
			lines = append(lines, fmt.Sprint("abort ", s))
			begun[s] = false
		case what < 12:
			lines = append(lines, fmt.Sprint("commit ", s), token)
			begun[s] = false
		case what < 13:
			// Now and then the key is one of another kind.
			lines = append(lines, fmt.Sprint("set ", s, " ", string("rns"[r.Intn(3)]), " ", text))
		case what < 14:
			lines = append(lines, fmt.Sprint("add ", s, " n ", r.Intn(100)))
		case what < 17:
			lines = append(lines, fmt.Sprint("put ", s, " s ", text))
		case what < 19:
			lines = append(lines, fmt.Sprint("drop ", s, " s ", text))
		default:
			lines = append(lines, fmt.Sprint("read ", s, " s"))
		}
	}
	return lines
}

// TestP122Read: what is committed is read at each place, once all has come.
func TestP122Read(t *testing.T) {
	r := rand.New(rand.NewSource(122))
	keys := []string{"r", "n", "s"}
	commits, kinds := 0, map[int]int{}
	for range 1500 {
		places := 1 + r.Intn(3)
		lines := doings(r, places, 1+r.Intn(2), 75)
		start := len(lines)
		lines = append(lines, "settle", "check")
		for p := range places {
			// Session 7 has nothing to wait for.
			lines = append(lines, fmt.Sprint("begin 7 ", p))
			for _, key := range keys {
				lines = append(lines, "read 7 "+key)
			}
			lines = append(lines, "commit 7", fmt.Sprint("snapshot ", p))
		}
		lines = append(lines, "check")
		told := run(t, lines)
		l := log{open: map[string]*api.Commit{}}
		l.hear(t, lines[:start], told[:start])
		want := []string{told[start], "ok"}
		if n := num(told[start]); n >= 40 {
			t.Fatalf("%q: it settles in %d", lines, n)
		}
		at := make([]int, places)
		for _, c := range l.done {
			at, _ = vector.Most(at, c.When)
		}
		snapshot, err := vector.Text(at)
		if err != nil {
			t.Fatal(err)
		}
		for range places {
			want = append(want, "ok")
			for _, key := range keys {
				v, err := values.Of(key, l.done)
				if err != nil {
					t.Fatal(err)
				}
				kinds[v.Kind]++
				want = append(want, spelt(v))
			}
			want = append(want, "ok", snapshot)
		}
		want = append(want, "ok")
		if !reflect.DeepEqual(told[start:], want) {
			t.Fatalf("%q\n%q, want\n%q", lines, told[start:], want)
		}
		commits += len(l.done)
	}
	if commits < 2000 || len(kinds) != 4 {
		t.Errorf("%d commits, kinds %v", commits, kinds)
	}
}

// TestP122Own: a session that goes to another place reads what it committed as soon as all has come there, and waits until then.
func TestP122Own(t *testing.T) {
	for places := 2; places <= api.MaxPlaces; places++ {
		for shards := 1; shards <= api.MaxShards; shards++ {
			last := strconv.Itoa(places - 1)
			lines := []string{fmt.Sprint("world ", places, " ", shards), "begin 0 0", "set 0 r x", "add 0 n 5", "put 0 s a", "put 0 t b", "commit 0", "begin 0 " + last, "beat 0", "begin 0 " + last, "all", "begin 0 " + last, "read 0 r", "read 0 n", "read 0 s", "read 0 t"}
			told := run(t, lines)
			want := []string{"causeway: wait", "ok", "causeway: wait"}
			if !slices.Equal(told[7:10], want) || !slices.Equal(told[11:], []string{"ok", "x", "5", "a", "b"}) {
				t.Errorf("%d, %d: %q", places, shards, told)
			}
		}
	}
}
