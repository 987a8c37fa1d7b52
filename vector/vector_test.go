package vector_test

import (
	"math"
	"slices"
	"strconv"
	"strings"
	"testing"

	"causeway/api"
	"causeway/vector"
)

type pairCase struct {
	name string
	a, b []int
	want error
}

// wrongPairs: what every call of two vectors refuses, and which error comes first.
func wrongPairs() []pairCase {
	ok, low, high := []int{1, 2}, []int{0, -1}, []int{api.MaxTime + 1, 0}
	return []pairCase{
		{"a nil", nil, ok, api.ErrShape},
		{"a empty", []int{}, ok, api.ErrShape},
		{"a too long", make([]int, api.MaxPlaces+1), ok, api.ErrShape},
		{"a below 0", low, ok, api.ErrBound},
		{"a above MaxTime", high, ok, api.ErrBound},
		{"b nil", ok, nil, api.ErrShape},
		{"b too long", ok, make([]int, api.MaxPlaces+1), api.ErrShape},
		{"b below 0", ok, low, api.ErrBound},
		{"b above MaxTime", ok, high, api.ErrBound},
		{"both nil", nil, nil, api.ErrShape},
		{"a's shape ahead of b's bound", nil, low, api.ErrShape},
		{"a's bound ahead of b's shape", low, nil, api.ErrBound},
		{"a's bound ahead of the lengths", []int{-1}, ok, api.ErrBound},
		{"b's bound ahead of the lengths", ok, []int{-1}, api.ErrBound},
		{"b shorter", ok, []int{1}, api.ErrShape},
		{"b longer", ok, []int{1, 2, 0}, api.ErrShape},
		{"extreme numbers", []int{math.MinInt, math.MaxInt}, ok, api.ErrBound},
	}
}

func TestP10Check(t *testing.T) {
	for _, c := range []struct {
		v    []int
		want error
	}{
		{[]int{0}, nil},
		{[]int{api.MaxTime}, nil},
		{[]int{0, 1, 2, 3, 4, api.MaxTime}, nil},
		{nil, api.ErrShape},
		{[]int{}, api.ErrShape},
		{make([]int, 7), api.ErrShape},
		{make([]int, 1000), api.ErrShape},
		{[]int{-1}, api.ErrBound},
		{[]int{api.MaxTime + 1}, api.ErrBound},
		{[]int{0, 0, 0, 0, 0, -1}, api.ErrBound},
		{[]int{math.MaxInt, 0}, api.ErrBound},
		{[]int{0, math.MinInt}, api.ErrBound},
		{[]int{-1, 0, 0, 0, 0, 0, 0}, api.ErrShape},
	} {
		if got := vector.Check(c.v); got != c.want {
			t.Errorf("Check(%v) = %v, want %v", c.v, got, c.want)
		}
	}
}

func TestP10LeastAndMost(t *testing.T) {
	for _, c := range []struct{ a, b, least, most []int }{
		{[]int{1, 0}, []int{0, 2}, []int{0, 0}, []int{1, 2}},
		{[]int{3}, []int{3}, []int{3}, []int{3}},
		{[]int{5}, []int{4}, []int{4}, []int{5}},
		{[]int{1, 2, 3, 4, 5, 6}, []int{6, 5, 4, 3, 2, 1}, []int{1, 2, 3, 3, 2, 1}, []int{6, 5, 4, 4, 5, 6}},
		{[]int{0, api.MaxTime}, []int{api.MaxTime, 0}, []int{0, 0}, []int{api.MaxTime, api.MaxTime}},
	} {
		least, err := vector.Least(c.a, c.b)
		if err != nil || !slices.Equal(least, c.least) {
			t.Errorf("Least(%v, %v) = %v, %v, want %v", c.a, c.b, least, err, c.least)
		}
		most, err := vector.Most(c.a, c.b)
		if err != nil || !slices.Equal(most, c.most) {
			t.Errorf("Most(%v, %v) = %v, %v, want %v", c.a, c.b, most, err, c.most)
		}
	}
}

func TestP10WithinAndOrder(t *testing.T) {
	for _, c := range []struct {
		a, b   []int
		within bool
		order  int
	}{
		{[]int{0}, []int{0}, true, 0},
		{[]int{0}, []int{1}, true, -1},
		{[]int{1}, []int{0}, false, 1},
		{[]int{1, 0}, []int{0, 2}, false, 2},
		{[]int{0, 2}, []int{1, 0}, false, 2},
		{[]int{1, 2}, []int{1, 3}, true, -1},
		{[]int{1, 3}, []int{1, 2}, false, 1},
		{[]int{1, 2, 3}, []int{1, 2, 3}, true, 0},
		{[]int{0, 0, 0, 0, 0, 1}, []int{9, 9, 9, 9, 9, 0}, false, 2},
		{[]int{api.MaxTime, 0}, []int{api.MaxTime, 1}, true, -1},
	} {
		in, err := vector.Within(c.a, c.b)
		if err != nil || in != c.within {
			t.Errorf("Within(%v, %v) = %v, %v, want %v", c.a, c.b, in, err, c.within)
		}
		order, err := vector.Order(c.a, c.b)
		if err != nil || order != c.order {
			t.Errorf("Order(%v, %v) = %d, %v, want %d", c.a, c.b, order, err, c.order)
		}
	}
}

func TestP10WrongPairs(t *testing.T) {
	for _, c := range wrongPairs() {
		if l, err := vector.Least(c.a, c.b); len(l) != 0 || err != c.want {
			t.Errorf("%s: Least = %v, %v, want %v", c.name, l, err, c.want)
		}
		if l, err := vector.Most(c.a, c.b); len(l) != 0 || err != c.want {
			t.Errorf("%s: Most = %v, %v, want %v", c.name, l, err, c.want)
		}
		if in, err := vector.Within(c.a, c.b); in || err != c.want {
			t.Errorf("%s: Within = %v, %v, want %v", c.name, in, err, c.want)
		}
		if n, err := vector.Order(c.a, c.b); n != 0 || err != c.want {
			t.Errorf("%s: Order = %d, %v, want %v", c.name, n, err, c.want)
		}
	}
}

func TestP11Weight(t *testing.T) {
	full := slices.Repeat([]int{api.MaxTime}, api.MaxPlaces)
	for _, c := range []struct {
		v    []int
		want int
		err  error
	}{
		{[]int{0}, 0, nil},
		{[]int{3, 0, 4}, 7, nil},
		{full, api.MaxPlaces * api.MaxTime, nil},
		{nil, 0, api.ErrShape},
		{make([]int, api.MaxPlaces+1), 0, api.ErrShape},
		{[]int{1, -1}, 0, api.ErrBound},
		{[]int{1, api.MaxTime + 1}, 0, api.ErrBound},
	} {
		if got, err := vector.Weight(c.v); got != c.want || err != c.err {
			t.Errorf("Weight(%v) = %d, %v, want %d, %v", c.v, got, err, c.want, c.err)
		}
	}
}

func TestP11Ahead(t *testing.T) {
	for _, c := range []struct {
		name string
		v    []int
		p    int
		w    []int
		q    int
		want bool
	}{
		{"less weight", []int{1, 0}, 0, []int{0, 2}, 1, true},
		{"more weight", []int{0, 2}, 1, []int{1, 0}, 0, false},
		{"less weight, later place", []int{0, 1}, 1, []int{2, 0}, 0, true},
		{"more weight, earlier place", []int{2, 0}, 0, []int{0, 1}, 1, false},
		{"less weight, more at the place", []int{2, 0}, 0, []int{1, 3}, 0, true},
		{"earlier place", []int{1, 1}, 0, []int{0, 2}, 1, true},
		{"earlier place, less there", []int{2, 1}, 0, []int{1, 2}, 1, true},
		{"later place", []int{1, 1}, 1, []int{0, 2}, 0, false},
		{"later place, less there", []int{2, 0}, 1, []int{1, 1}, 0, false},
		{"less at the place", []int{1, 1}, 0, []int{2, 0}, 0, true},
		{"more at the place", []int{1, 1}, 1, []int{2, 0}, 1, false},
		{"less at the last place", []int{1, 0, 0}, 2, []int{0, 0, 1}, 2, true},
		{"as much at the place", []int{1, 0, 2}, 1, []int{2, 0, 1}, 1, false},
		{"the same", []int{1, 0}, 0, []int{1, 0}, 0, false},
		{"the same, earlier place", []int{1, 0}, 0, []int{1, 0}, 1, true},
	} {
		if got, err := vector.Ahead(c.v, c.p, c.w, c.q); got != c.want || err != nil {
			t.Errorf("%s: Ahead = %v, %v, want %v", c.name, got, err, c.want)
		}
	}
}

func TestP11AheadRefuses(t *testing.T) {
	for _, c := range wrongPairs() {
		for _, p := range []int{0, 9} {
			if got, err := vector.Ahead(c.a, p, c.b, p); got || err != c.want {
				t.Errorf("%s, place %d: Ahead = %v, %v, want %v", c.name, p, got, err, c.want)
			}
		}
	}
	v, w := []int{0, 1}, []int{5, 5}
	for _, bad := range []int{-1, 2, math.MinInt, math.MaxInt} {
		if got, err := vector.Ahead(v, bad, w, 0); got || err != api.ErrBound {
			t.Errorf("p %d: Ahead = %v, %v, want ErrBound", bad, got, err)
		}
		if got, err := vector.Ahead(v, 0, w, bad); got || err != api.ErrBound {
			t.Errorf("q %d: Ahead = %v, %v, want ErrBound", bad, got, err)
		}
	}
}

func TestP12Text(t *testing.T) {
	for _, c := range []struct {
		v    []int
		want string
		err  error
	}{
		{[]int{0}, "0", nil},
		{[]int{1, 20, 300}, "1.20.300", nil},
		{[]int{api.MaxTime, 0, 0, 0, 0, 1}, "1099511627776.0.0.0.0.1", nil},
		{nil, "", api.ErrShape},
		{make([]int, api.MaxPlaces+1), "", api.ErrShape},
		{[]int{0, -1}, "", api.ErrBound},
		{[]int{api.MaxTime + 1}, "", api.ErrBound},
	} {
		if got, err := vector.Text(c.v); got != c.want || err != c.err {
			t.Errorf("Text(%v) = %q, %v, want %q, %v", c.v, got, err, c.want, c.err)
		}
	}
}

func TestP12Read(t *testing.T) {
	for s, want := range map[string][]int{
		"0":                       {0},
		"10":                      {10},
		"1.20.300":                {1, 20, 300},
		"0.0.0.0.0.0":             {0, 0, 0, 0, 0, 0},
		"1099511627776":           {api.MaxTime},
		"1.2.3.4.5.1099511627776": {1, 2, 3, 4, 5, api.MaxTime},
	} {
		if got, err := vector.Read(s); err != nil || !slices.Equal(got, want) {
			t.Errorf("Read(%q) = %v, %v, want %v", s, got, err, want)
		}
	}
}

func TestP12ReadRefuses(t *testing.T) {
	for _, s := range []string{
		"", ".", "..", "1.", ".1", "1..2", "1.2.", "a", "1.a", "1,2", "1 2", " 1", "1 ", "1\n", "1\x00", "\xff",
		"01", "00", "1.00", "-1", "-0", "+1", "1.+2", "1_0", "0x1", "1e3", "1.2.3.4.5.6.7", "1.2.3.4.5.6.",
		"1099511627777", "0.1099511627777", "9223372036854775807", "9223372036854775808", "99999999999999999999",
		"\u0661", "\uff11", strings.Repeat("1", 1000), strings.Repeat(".", 1000), strings.Repeat("0.", 100000) + "0",
	} {
		if got, err := vector.Read(s); len(got) != 0 || err != api.ErrText {
			t.Errorf("Read(%.40q) = %v, %v, want ErrText", s, got, err)
		}
	}
}

// TestP12ReadTakesJustWhatTextMakes goes through every short text over a small alphabet.
func TestP12ReadTakesJustWhatTextMakes(t *testing.T) {
	texts := []string{""}
	for range 5 {
		for _, s := range slices.Clone(texts) {
			for _, c := range "019.-+ " {
				texts = append(texts, s+string(c))
			}
		}
		slices.Sort(texts)
		texts = slices.Compact(texts)
	}
	for _, s := range texts {
		v, err := vector.Read(s)
		if isText(s) {
			back, bad := vector.Text(v)
			if err != nil || bad != nil || back != s {
				t.Errorf("Read(%q) = %v, %v, and back %q, %v", s, v, err, back, bad)
			}
		} else if len(v) != 0 || err != api.ErrText {
			t.Errorf("Read(%q) = %v, %v, want ErrText", s, v, err)
		}
	}
}

// isText tells texts of few and small times by their letters alone, apart from how Read does it.
func isText(s string) bool {
	for _, part := range strings.Split(s, ".") {
		if part == "" || strings.Trim(part, "0123456789") != "" || len(part) > 1 && part[0] == '0' {
			return false
		}
	}
	return true
}

// everyVector: all of so many places whose times are 0, 1, 2 or MaxTime.
func everyVector(places int) [][]int {
	all := [][]int{{}}
	for range places {
		var next [][]int
		for _, v := range all {
			for _, time := range []int{0, 1, 2, api.MaxTime} {
				next = append(next, append(slices.Clone(v), time))
			}
		}
		all = next
	}
	return all
}

func mustWithin(t *testing.T, a, b []int) bool {
	t.Helper()
	in, err := vector.Within(a, b)
	if err != nil {
		t.Fatalf("Within(%v, %v): %v", a, b, err)
	}
	return in
}

func TestP13MostAndLeastAreTheNearest(t *testing.T) {
	for places := 1; places <= 2; places++ {
		all := everyVector(places)
		for _, a := range all {
			for _, b := range all {
				least, bad := vector.Least(a, b)
				most, err := vector.Most(a, b)
				if bad != nil || err != nil {
					t.Fatal(a, b, bad, err)
				}
				for _, c := range all {
					above := mustWithin(t, a, c) && mustWithin(t, b, c)
					if above != mustWithin(t, most, c) {
						t.Errorf("Most(%v, %v) = %v: both within %v: %v", a, b, most, c, above)
					}
					below := mustWithin(t, c, a) && mustWithin(t, c, b)
					if below != mustWithin(t, c, least) {
						t.Errorf("Least(%v, %v) = %v: %v within both: %v", a, b, least, c, below)
					}
				}
			}
		}
	}
}

func TestP13WithinIsAhead(t *testing.T) {
	for places := 1; places <= 3; places++ {
		all := everyVector(places)
		for _, a := range all {
			for _, b := range all {
				if slices.Equal(a, b) || !mustWithin(t, a, b) {
					continue
				}
				for p := range places {
					for q := range places {
						ahead, err := vector.Ahead(a, p, b, q)
						behind, bad := vector.Ahead(b, q, a, p)
						if !ahead || behind || err != nil || bad != nil {
							t.Errorf("%v of %d within %v of %d: ahead %v, behind %v", a, p, b, q, ahead, behind)
						}
					}
				}
			}
		}
	}
}

func TestP13OrderTellsAsWithinDoes(t *testing.T) {
	all := everyVector(3)
	for _, a := range all {
		for _, b := range all {
			want := 2
			switch in, out := mustWithin(t, a, b), mustWithin(t, b, a); {
			case in && out:
				want = 0
			case in:
				want = -1
			case out:
				want = 1
			}
			if got, err := vector.Order(a, b); got != want || err != nil {
				t.Errorf("Order(%v, %v) = %d, %v, want %d", a, b, got, err, want)
			}
		}
	}
}

// TestAnswersAreNewMemory: an answer shares nothing with what was handed over, also not behind a list's length (P3, P4).
func TestAnswersAreNewMemory(t *testing.T) {
	memA, memB := []int{1, 5, -7, -7}, []int{4, 2, -8, -8}
	a, b := memA[:2], memB[:2]
	least, err := vector.Least(a, b)
	if err != nil || !slices.Equal(least, []int{1, 2}) {
		t.Error("what lies behind the length was read:", least, err)
	}
	most, _ := vector.Most(a, b)
	same, _ := vector.Most(a, a)
	for _, l := range [][]int{least, most, same} {
		for i := range l {
			l[i] = 99
		}
		_ = append(l, 99)
	}
	vector.Within(a, b)
	vector.Order(a, b)
	vector.Ahead(a, 0, b, 1)
	vector.Text(a)
	if !slices.Equal(memA, []int{1, 5, -7, -7}) || !slices.Equal(memB, []int{4, 2, -8, -8}) {
		t.Error("what was handed over has changed:", memA, memB)
	}
	first, _ := vector.Read("1.2")
	first[0] = 99
	if second, err := vector.Read("1.2"); err != nil || !slices.Equal(second, []int{1, 2}) {
		t.Error("Read answers memory of an earlier answer:", second, err)
	}
}

// FuzzRead: whatever text comes, Read ends, and what it takes is what Text makes.
func FuzzRead(f *testing.F) {
	for _, s := range []string{"", "0", "1.2", "01", "1.", strconv.Itoa(api.MaxTime), strconv.Itoa(api.MaxTime + 1)} {
		f.Add(s)
	}
	f.Fuzz(func(t *testing.T, s string) {
		v, err := vector.Read(s)
		if err != nil {
			if err != api.ErrText || len(v) != 0 {
				t.Errorf("Read(%q) = %v, %v", s, v, err)
			}
			return
		}
		if back, err := vector.Text(v); err != nil || back != s {
			t.Errorf("Read(%q) = %v, and back %q, %v", s, v, back, err)
		}
	})
}
