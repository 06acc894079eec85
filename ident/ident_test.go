package ident_test

import (
	"fmt"
	"maps"
	"math"
	"slices"
	"strconv"
	"strings"
	"testing"

	"scrim/api"
	"scrim/ident"
)

const (
	none = api.Label(0)
	all  = api.Label(math.MaxUint64)
	top  = 1 << 62
)

// set is the label of compartments.
func set(compartments ...int) api.Label {
	a := none
	for _, c := range compartments {
		a |= 1 << c
	}
	return a
}

// line is a line with that identity.
func line(a api.Label, n int) api.Line { return api.Line{Label: a, N: n} }

// labels rise as numbers, and neither by how many compartments they have nor by their texts.
func labels() []api.Label {
	return []api.Label{none, set(0), set(3), set(0, 1, 2, 3), set(9), set(10), set(3, 10), set(62), set(63), set(3, 63), all &^ 1, all}
}

// lines are one of each of the texts, of one identity.
func lines(a api.Label, n int, texts ...string) []api.Line {
	var l []api.Line
	for rev, text := range texts {
		l = append(l, api.Line{Label: a, N: n, Rev: rev, Text: text})
	}
	return l
}

// begun are counters that begin with the lines.
func begun(t *testing.T, l ...api.Line) *ident.Ids {
	t.Helper()
	x, e := ident.New(l)
	if e != api.OK || x == nil {
		t.Fatalf("New(%v): %v, error %d", l, x, e)
	}
	return x
}

// next asks for a number, which must be that one.
func next(t *testing.T, x *ident.Ids, a api.Label, want int) {
	t.Helper()
	if n, e := x.Next(a); n != want || e != api.OK {
		t.Errorf("Next(%x): %d, error %d, want %d", a, n, e, want)
	}
}

// full asks for a number, of which there must be no more.
func full(t *testing.T, x *ident.Ids, a api.Label) {
	t.Helper()
	if n, e := x.Next(a); n != 0 || e != api.ErrFull {
		t.Errorf("Next(%x): %d, error %d", a, n, e)
	}
}

// lasts are the labels' last numbers, those that are 0 left out.
func lasts(x *ident.Ids) map[api.Label]int {
	m := map[api.Label]int{}
	for _, a := range labels() {
		if n := x.Last(a); n != 0 {
			m[a] = n
		}
	}
	return m
}

// holds tells a fault, unless the labels' last numbers are these.
func holds(t *testing.T, name string, x *ident.Ids, want map[api.Label]int) {
	t.Helper()
	if got := lasts(x); !maps.Equal(got, want) {
		t.Errorf("%s: the last numbers are %v, want %v", name, got, want)
	}
}

// orders goes over the lines in every order.
func orders(l []api.Line, each func([]api.Line)) {
	if len(l) == 0 {
		each(nil)
		return
	}
	for i, x := range l {
		rest := slices.Delete(slices.Clone(l), i, i+1)
		orders(rest, func(m []api.Line) { each(append([]api.Line{x}, m...)) })
	}
}

// lists goes over all lists of at most so many of the lines, the empty one too.
func lists(l []api.Line, most int, each func([]api.Line)) {
	each(nil)
	if most == 0 {
		return
	}
	for _, x := range l {
		lists(l, most-1, func(m []api.Line) { each(append([]api.Line{x}, m...)) })
	}
}

// document are lines no two of which have one identity, with the last number of each label.
type document struct {
	l    []api.Line
	last map[api.Label]int
}

// documents are those with which counters may begin.
func documents() map[string]document {
	var many, every []api.Line
	manyLast, everyLast := map[api.Label]int{}, map[api.Label]int{}
	for i := range 3000 {
		many = append(many, line(set(3), i*7919%3000+1))
	}
	manyLast[set(3)] = 3000
	for i, a := range labels() {
		every = append(every, line(a, i+1), line(a, 50-i), line(a, i+2))
		everyLast[a] = 50 - i
	}
	return map[string]document{
		"no lines":              {nil, map[api.Label]int{}},
		"an empty list":         {[]api.Line{}, map[api.Label]int{}},
		"one line":              {[]api.Line{line(set(9), 1)}, map[api.Label]int{set(9): 1}},
		"one label, rising":     {[]api.Line{line(set(3), 1), line(set(3), 2), line(set(3), 7)}, map[api.Label]int{set(3): 7}},
		"one label, falling":    {[]api.Line{line(set(3), 7), line(set(3), 2), line(set(3), 1)}, map[api.Label]int{set(3): 7}},
		"the empty label alone": {[]api.Line{line(none, 3), line(none, 9), line(none, 4)}, map[api.Label]int{none: 9}},
		"the full label alone":  {[]api.Line{line(all, 2)}, map[api.Label]int{all: 2}},
		"the chapter's":         {[]api.Line{line(set(3), 1), line(set(3), 4), line(none, 2)}, map[api.Label]int{set(3): 4, none: 2}},
		"one N of many labels":  {[]api.Line{line(none, 5), line(set(0), 5), line(all, 5), line(set(63), 5)}, map[api.Label]int{none: 5, set(0): 5, all: 5, set(63): 5}},
		"labels that hold one another": {[]api.Line{line(set(3, 10), 8), line(set(3), 2), line(set(10), 3), line(none, 1)},
			map[api.Label]int{set(3, 10): 8, set(3): 2, set(10): 3, none: 1}},
		"the ends": {[]api.Line{line(set(3), top), line(none, 1), line(all, top-1), line(set(3), 1)}, map[api.Label]int{set(3): top, none: 1, all: top - 1}},
		"texts and Revs that may not be": {[]api.Line{
			{Label: set(3), N: 2, Rev: -1, Text: "a\nb"}, {Label: set(3), N: 1, Rev: math.MinInt}, {N: 6, Rev: math.MaxInt, Text: strings.Repeat("x", 1<<16)}, {N: 1, Rev: top + 1, Text: "\xff"},
		}, map[api.Label]int{set(3): 2, none: 6}},
		"many lines of one label": {many, manyLast},
		"all labels":              {every, everyLast},
	}
}

// P4.1

func TestNewBeginsWithTheGreatestN(t *testing.T) {
	for name, d := range documents() {
		holds(t, name, begun(t, d.l...), d.last)
		turned := slices.Clone(d.l)
		slices.Reverse(turned)
		holds(t, name+", turned about", begun(t, turned...), d.last)
	}
	l := []api.Line{line(set(3), 1), line(none, 9), line(set(3), top), line(none, 2), line(all, 3)}
	orders(l, func(m []api.Line) {
		holds(t, "in any order", begun(t, m...), map[api.Label]int{set(3): top, none: 9, all: 3})
	})
}

func TestNewRefusesWhatIsNoDocuments(t *testing.T) {
	for _, n := range []int{0, -1, -2, top + 1, top + 2, math.MaxInt, -top, math.MinInt} {
		wrong := line(set(3), n)
		for _, l := range [][]api.Line{
			{wrong}, {wrong, line(set(3), 1)}, {line(set(3), 1), wrong}, {line(none, 1), line(none, 2), wrong, line(all, 1)}, {line(set(3), top), wrong}, {wrong, line(set(3), top)}, {wrong, wrong}, {line(none, n)}, {line(all, n)},
		} {
			if x, e := ident.New(l); x != nil || e != api.ErrDoc {
				t.Errorf("New(%v): %v, error %d", l, x, e)
			}
		}
	}
	for _, l := range [][]api.Line{
		lines(set(3), 1, "", ""), // the chapter's
		lines(none, 1, "a", "a"),
		lines(all, top, "a", "b"),
		{line(set(3), 5), line(none, 5), line(set(3), 4), line(set(3), 5)},
		{line(set(3), 4), line(none, 9), line(set(3), 6), line(set(3), 4)},
		{line(none, 1), line(none, 2), line(none, 2), line(none, 3)},
		{line(none, 1), line(none, 2), line(none, 3), line(none, 1)},
		{{Label: set(3), N: 1, Rev: 7, Text: "a"}, {Label: set(3), N: 1, Rev: 0, Text: "b"}},
		append(lines(none, 1, "a", "b"), line(none, 0)),
		append([]api.Line{line(none, 0)}, lines(none, 1, "a", "b")...),
	} {
		if x, e := ident.New(l); x != nil || e != api.ErrDoc {
			t.Errorf("New(%v): %v, error %d", l, x, e)
		}
	}
}

func TestNextTellsOneMore(t *testing.T) {
	x := begun(t, line(set(3), 1), line(set(3), 4), line(none, 2))
	next(t, x, set(3), 5)
	next(t, x, set(3), 6)
	next(t, x, none, 3)
	next(t, x, set(9), 1)
	holds(t, "the chapter's", x, map[api.Label]int{set(3): 6, none: 3, set(9): 1})
	for name, d := range documents() {
		x := begun(t, d.l...)
		for _, a := range labels() {
			if d.last[a] >= top-3 {
				continue
			}
			for more := 1; more <= 3; more++ {
				next(t, x, a, d.last[a]+more)
				if got := x.Last(a); got != d.last[a]+more {
					t.Errorf("%s: Last(%x): %d behind a Next of %d", name, a, got, d.last[a]+more)
				}
			}
		}
	}
}

func TestNextIsFull(t *testing.T) {
	x := begun(t, line(set(3), top), line(none, top-1), line(all, top-2))
	for range 3 {
		full(t, x, set(3))
		holds(t, "full at the beginning", x, map[api.Label]int{set(3): top, none: top - 1, all: top - 2})
	}
	next(t, x, none, top)
	next(t, x, all, top-1)
	full(t, x, none)
	next(t, x, all, top)
	for range 2 {
		full(t, x, all)
		full(t, x, none)
		full(t, x, set(3))
	}
	holds(t, "all full", x, map[api.Label]int{set(3): top, none: top, all: top})
	next(t, x, set(63), 1)
	y := x.Copy()
	full(t, y, set(3))
	next(t, y, set(63), 2)
}

func TestLastAsksOnly(t *testing.T) {
	x := begun(t, line(set(3), 4))
	for range 3 {
		if got := x.Last(set(3)); got != 4 {
			t.Errorf("Last: %d", got)
		}
		if got := x.Last(set(9)); got != 0 {
			t.Errorf("Last of a label without lines: %d", got)
		}
	}
	next(t, x, set(3), 5)
	next(t, x, set(9), 1)
}

func TestCopiesGoTheirOwnWays(t *testing.T) {
	for name, d := range documents() {
		x := begun(t, d.l...)
		y := x.Copy()
		holds(t, name+", copied", y, d.last)
		want := maps.Clone(d.last)
		for _, a := range labels() {
			if want[a] < top {
				next(t, x, a, want[a]+1)
				want[a]++
			}
		}
		holds(t, name+", behind Nexts of the first one", y, d.last)
		holds(t, name+", behind its own Nexts", x, want)
	}

	x := begun(t, line(set(3), 4), line(none, 2))
	y := x.Copy()
	next(t, y, set(3), 5)
	next(t, y, set(3), 6)
	next(t, y, set(9), 1)
	z := y.Copy()
	holds(t, "behind Nexts of the copy", x, map[api.Label]int{set(3): 4, none: 2})
	next(t, x, set(3), 5)
	next(t, z, none, 3)
	next(t, y, set(9), 2)
	holds(t, "the first one", x, map[api.Label]int{set(3): 5, none: 2})
	holds(t, "the copy", y, map[api.Label]int{set(3): 6, none: 2, set(9): 2})
	holds(t, "the copy's copy", z, map[api.Label]int{set(3): 6, none: 3, set(9): 1})
	if empty := begun(t).Copy(); empty == nil || len(lasts(empty)) != 0 {
		t.Errorf("the copy of counters without lines: %v", empty)
	} else {
		next(t, empty, set(3), 1)
	}
}

// P4.2

// rising are lines of all kinds of identities, each less than the next one.
func rising() []api.Line {
	var l []api.Line
	for _, a := range labels() {
		for _, n := range []int{math.MinInt, -top, -1, 0, 1, 2, 9, 10, 1 << 32, top - 1, top, top + 1, math.MaxInt} {
			l = append(l, line(a, n))
		}
	}
	return l
}

func TestSameAndLessHoldIdentities(t *testing.T) {
	l := rising()
	for i, a := range l {
		for j, b := range l {
			a.Rev, a.Text = 9-j, "z"
			b.Rev, b.Text = i, "a"
			if got := ident.Same(a, b); got != (i == j) {
				t.Fatalf("Same(%v, %v) is %v", a, b, got)
			}
			if got := ident.Less(a, b); got != (i < j) {
				t.Fatalf("Less(%v, %v) is %v", a, b, got)
			}
		}
	}
	if !ident.Less(line(set(1), 9), line(set(2), 1)) {
		t.Error("the chapter's Less")
	}
}

func TestSortedPutsLinesInOrder(t *testing.T) {
	for _, x := range []struct {
		name    string
		l, want []api.Line
	}{
		{"nil", nil, nil},
		{"none", []api.Line{}, nil},
		{"one", lines(set(3), 7, "a"), lines(set(3), 7, "a")},
		{"by label first", []api.Line{line(set(2), 1), line(set(1), 9), line(none, 5)}, []api.Line{line(none, 5), line(set(1), 9), line(set(2), 1)}},
		{"labels as numbers", []api.Line{line(all, 1), line(set(10), 1), line(set(9), 1), line(set(0, 1, 2, 3), 1)},
			[]api.Line{line(set(0, 1, 2, 3), 1), line(set(9), 1), line(set(10), 1), line(all, 1)}},
		{"Ns as numbers", []api.Line{line(none, 10), line(none, 9), line(none, -1), line(none, 0)}, []api.Line{line(none, -1), line(none, 0), line(none, 9), line(none, 10)}},
		{"one identity, falling texts and Revs", []api.Line{{Rev: 9, Text: "b"}, {Rev: 3, Text: "a"}, {Rev: 3, Text: "c"}}, []api.Line{{Rev: 9, Text: "b"}, {Rev: 3, Text: "a"}, {Rev: 3, Text: "c"}}},
		{"identities between one another", []api.Line{{N: 2, Text: "b"}, {N: 1, Text: "z"}, {N: 2, Text: "a"}, {N: 1, Text: "y"}},
			[]api.Line{{N: 1, Text: "z"}, {N: 1, Text: "y"}, {N: 2, Text: "b"}, {N: 2, Text: "a"}}},
	} {
		if got := ident.Sorted(x.l); !slices.Equal(got, x.want) {
			t.Errorf("%s: Sorted: %v", x.name, got)
		}
	}
}

// mixed are lines of few identities in no order, whose Revs tell where they stand.
func mixed(count int) []api.Line {
	var l []api.Line
	number := uint64(1)
	for i := range count {
		number = number*6364136223846793005 + 1442695040888963407
		a := labels()[number>>33%5]
		l = append(l, api.Line{Label: a, N: int(number >> 40 % 4), Rev: i, Text: strconv.Itoa(int(number >> 50))})
	}
	return l
}

func TestSortedKeepsTheOrderOfOneIdentity(t *testing.T) {
	for _, count := range []int{2, 3, 5, 11, 12, 13, 20, 21, 64, 100, 1000, 5000} {
		l := mixed(count)
		sorted := ident.Sorted(l)
		if len(sorted) != count {
			t.Fatalf("Sorted of %d are %d", count, len(sorted))
		}
		for i, b := range sorted {
			if b != l[b.Rev] {
				t.Fatalf("Sorted of %d has %v at %d, which is none of them", count, b, i)
			}
			if i == 0 {
				continue
			}
			a := sorted[i-1]
			same := a.Label == b.Label && a.N == b.N
			if b.Label < a.Label || b.Label == a.Label && b.N < a.N || same && b.Rev <= a.Rev {
				t.Fatalf("Sorted of %d: %v stands ahead of %v", count, a, b)
			}
		}
	}
}

func TestTwiceTellsTheFirstPlace(t *testing.T) {
	for _, x := range []struct {
		name  string
		l     []api.Line
		place int
		twice bool
	}{
		{"nil", nil, 0, false},
		{"none", []api.Line{}, 0, false},
		{"one", []api.Line{{}}, 0, false},
		{"the chapter's", []api.Line{line(none, 1), line(none, 2), line(none, 1)}, 2, true},
		{"at once", lines(set(3), 4, "a", "b"), 1, true},
		{"three times", lines(set(3), 4, "a", "b", "c"), 1, true},
		{"the one that ends first, not that begins first", []api.Line{line(none, 1), line(none, 2), line(none, 2), line(none, 1)}, 2, true},
		{"one N of two labels", []api.Line{line(set(1), 1), line(set(2), 1), line(none, 1)}, 0, false},
		{"two Ns of one label", []api.Line{line(all, 2), line(all, 1)}, 0, false},
		{"label and N turned about", []api.Line{line(2, 1), line(1, 2)}, 0, false},
		{"one text and Rev", []api.Line{{N: 1, Rev: 2, Text: "a"}, {N: 2, Rev: 2, Text: "a"}}, 0, false},
		{"Ns that may not be", []api.Line{line(none, 0), line(none, -1), line(none, math.MinInt), line(none, math.MaxInt), line(none, -1)}, 4, true},
		{"all identities once", rising(), 0, false},
		{"all identities, the last of them twice", append(rising(), line(all, math.MaxInt)), len(rising()), true},
	} {
		if place, twice := ident.Twice(x.l); place != x.place || twice != x.twice {
			t.Errorf("%s: Twice: %d, %v", x.name, place, twice)
		}
	}
}

// twiceByWords does what the promise's words say, one by one.
func twiceByWords(l []api.Line) (int, bool) {
	for i, b := range l {
		for _, a := range l[:i] {
			if a.Label == b.Label && a.N == b.N {
				return i, true
			}
		}
	}
	return 0, false
}

func TestShortLists(t *testing.T) {
	lists([]api.Line{line(none, 1), line(none, 2), line(set(63), 1), line(set(63), 2)}, 5, func(l []api.Line) {
		wantPlace, want := twiceByWords(l)
		if place, twice := ident.Twice(l); place != wantPlace || twice != want {
			t.Fatalf("Twice(%v): %d, %v, want %d, %v", l, place, twice, wantPlace, want)
		}
		x, e := ident.New(l)
		if want && (x != nil || e != api.ErrDoc) || !want && (x == nil || e != api.OK) {
			t.Fatalf("New(%v): %v, error %d", l, x, e)
		}
	})
}

// P4.3

func fullText() string {
	var l []string
	for c := range 64 {
		l = append(l, strconv.Itoa(c))
	}
	return strings.Join(l, "+")
}

func TestTextTellsAnyN(t *testing.T) {
	for _, x := range []struct {
		a    api.Label
		n    int
		want string
	}{
		{set(3, 7), 12, "3+7#12"},
		{none, 1, "-#1"},
		{none, 0, "-#0"},
		{set(0), 0, "0#0"},
		{none, -1, "-#-1"},
		{set(9, 63), -20, "9+63#-20"},
		{all, top, fullText() + "#4611686018427387904"},
		{set(10, 9), top + 1, "9+10#4611686018427387905"},
		{set(3), math.MaxInt, "3#9223372036854775807"},
		{set(3), math.MinInt, "3#-9223372036854775808"},
	} {
		if got := ident.Text(line(x.a, x.n)); got != x.want {
			t.Errorf("Text of {%x, %d}: %q", x.a, x.n, got)
		}
		if got := ident.Text(api.Line{Label: x.a, N: x.n, Rev: -7, Text: "#1\n"}); got != x.want {
			t.Errorf("Text of {%x, %d} with a text: %q", x.a, x.n, got)
		}
	}
}

func TestParseRefusesOtherTexts(t *testing.T) {
	for _, s := range []string{
		"-#0", "3#", "3#01", "#1", // the chapter's
		"", "#", "##", "-", "3", "12", "3+7", "-1", "-1#1", // no label, no N, no #
		"3##1", "3#1#", "#3#1", "3#1#2", "-#1#1", // two of them
		"3#0", "3#00", "3#007", "-#-1", "-#+1", "-#-0", "3#--1", "3#-", "3#+", "3#1-", "3#1+2", "3#-9223372036854775808",
		"3#9223372036854775808", "3#9223372036854775809", "3#9223372036854775817", "3#18446744073709551616", "3#18446744073709551617", "3#99999999999999999999", "3#" + strings.Repeat("9", 1<<16), "3#" + strings.Repeat("0", 1<<16) + "1",
		" 3#1", "3 #1", "3# 1", "3#1 ", "- #1", "-# 1", "3+ 7#1", "3#1\n", "3#1\x00", "3#1\xff", "3#1x", "3#1:", "3#1 2#1", "\n3#1",
		"7+3#1", "3+3#1", "10+9#1", "1+2+1#1", "1+0#1", // compartments that fall or stand twice
		"03#1", "00#1", "3+07#1", "64#1", "100#1", "3+64#1", "+3#1", "3+#1", "++#1", "+#1", "3++7#1", "--#1", "-+3#1", "3+-#1", "-3#1", "3-#1", "{3}#1", "3,7#1", "a#1", "18446744073709551619#1",
		"3#a", "3#0x1", "3#1_0", "3#1e1", "3#1.0", "3#\u0661", "\u0663#1", "3\uff031", "3:1", "3 1", "\xff#1", "3#\xff", "\x00#\x00",
		fullText(), fullText() + "#", fullText() + "#0", fullText() + "+64#1", fullText() + "+#1",
		strings.Repeat("#", 1<<16), strings.Repeat("1+", 1<<16) + "1#1", strings.Repeat("3#1", 1<<12),
	} {
		if a, n, e := ident.Parse(s); a != 0 || n != 0 || e != api.ErrForm {
			t.Errorf("Parse(%.80q): %x, %d, error %d", s, a, n, e)
		}
	}
}

func TestParseReadsTexts(t *testing.T) {
	for _, x := range []struct {
		s string
		a api.Label
		n int
	}{
		{"-#1", none, 1},
		{"0#1", set(0), 1},
		{"3+7#12", set(3, 7), 12},
		{"63#10", set(63), 10},
		{"9+10#4611686018427387904", set(9, 10), top},
		{"-#4611686018427387905", none, top + 1},
		{"3#9223372036854775807", set(3), math.MaxInt},
		{fullText() + "#9223372036854775806", all, math.MaxInt - 1},
	} {
		if a, n, e := ident.Parse(x.s); a != x.a || n != x.n || e != api.OK {
			t.Errorf("Parse(%q): %x, %d, error %d", x.s, a, n, e)
		}
	}
}

// words goes over all texts of at most so many of the letters, the empty one too.
func words(letters string, most int, each func(string)) {
	each("")
	if most == 0 {
		return
	}
	for i := range len(letters) {
		words(letters, most-1, func(s string) { each(letters[i:i+1] + s) })
	}
}

// rightTexts are the texts, and perhaps some longer ones, of identities that are written with the digits 0, 1 and 6, of at most 7 bytes.
func rightTexts() map[string]api.Line {
	compartments := []int{0, 1, 6, 10, 11, 16, 60, 61}
	right := map[string]api.Line{}
	for subset := range 1 << len(compartments) {
		a, text := none, ""
		for i, c := range compartments {
			if subset>>i&1 == 1 {
				a |= 1 << c
				text += fmt.Sprintf("+%d", c)
			}
		}
		text = strings.TrimPrefix(text, "+")
		if a == none {
			text = "-"
		}
		words("016", 5, func(s string) {
			if s != "" && s[0] != '0' {
				n, _ := strconv.Atoi(s)
				right[text+"#"+s] = line(a, n)
			}
		})
	}
	return right
}

func TestParseTakesJustTheTextsOfIdentities(t *testing.T) {
	right := rightTexts()
	if right["6+60#1"].N != 1 || right["-#16"].N != 16 || right["-#0"].N != 0 {
		t.Fatalf("the %d right texts are wrong", len(right))
	}
	words("016+-# ", 7, func(s string) {
		want, is := right[s]
		a, n, e := ident.Parse(s)
		if a != want.Label || n != want.N || is != (e == api.OK) || !is && e != api.ErrForm {
			t.Fatalf("Parse(%q): %x, %d, error %d", s, a, n, e)
		}
	})
}

// P4.4

func TestNextHangsOnItsLabelAlone(t *testing.T) {
	for name, d := range documents() {
		together := begun(t, d.l...)
		alone := map[api.Label]*ident.Ids{}
		for _, a := range labels() {
			var own []api.Line
			for _, x := range d.l {
				if x.Label == a {
					own = append(own, x)
				}
			}
			alone[a] = begun(t, own...)
		}
		for round := range 5 {
			for i, a := range labels() {
				for range (i + round) % 3 {
					n, e := together.Next(a)
					m, f := alone[a].Next(a)
					if n != m || e != f {
						t.Fatalf("%s: Next(%x): %d, error %d; without other labels %d, error %d", name, a, n, e, m, f)
					}
				}
				if n, m := together.Last(a), alone[a].Last(a); n != m {
					t.Fatalf("%s: Last(%x): %d; without other labels %d", name, a, n, m)
				}
			}
		}
	}
}

func TestNumbersRiseAndAreNew(t *testing.T) {
	for name, d := range documents() {
		x := begun(t, d.l...)
		last := maps.Clone(d.last)
		var given []api.Line
		for i := range 200 {
			a := labels()[i*i%len(labels())]
			n, e := x.Next(a)
			if e == api.ErrFull && last[a] == top {
				continue
			}
			if e != api.OK || n != last[a]+1 {
				t.Fatalf("%s: Next(%x): %d, error %d, behind %d", name, a, n, e, last[a])
			}
			last[a] = n
			given = append(given, line(a, n))
		}
		if i, twice := twiceByWords(given); twice {
			t.Errorf("%s: %v was given out twice", name, given[i])
		}
		for _, g := range given {
			if slices.ContainsFunc(d.l, func(x api.Line) bool { return x.Label == g.Label && x.N == g.N }) {
				t.Errorf("%s: %v stands among the lines", name, g)
			}
		}
	}
}

// P4.5

func TestLessIsAnOrder(t *testing.T) {
	l := append(rising(), mixed(40)...)
	for _, a := range l {
		if ident.Less(a, a) || !ident.Same(a, a) {
			t.Fatalf("%v is less than itself, or not the same", a)
		}
		for _, b := range l {
			ways := 0
			for _, is := range []bool{ident.Less(a, b), ident.Less(b, a), ident.Same(a, b)} {
				if is {
					ways++
				}
			}
			if ways != 1 || ident.Same(a, b) != ident.Same(b, a) {
				t.Fatalf("%v and %v are held in %d ways", a, b, ways)
			}
			for _, c := range l[len(l)-20:] {
				if ident.Less(a, b) && ident.Less(b, c) && !ident.Less(a, c) {
					t.Fatalf("%v is less than %v, that than %v", a, b, c)
				}
			}
		}
	}
}

func TestSortedOfAnyOrderIsTheSame(t *testing.T) {
	want := []api.Line{
		{N: 2, Text: "f"}, {N: 10, Rev: 5, Text: "e"}, {Label: set(3), N: 1, Text: "d"}, {Label: set(9), N: 1, Rev: 9, Text: "c"}, {Label: set(63), N: 9, Text: "b"}, {Label: all, N: top, Text: "a"},
	}
	orders(want, func(l []api.Line) {
		if got := ident.Sorted(l); !slices.Equal(got, want) {
			t.Fatalf("Sorted(%v): %v", l, got)
		}
	})
	l := rising()
	for step := 1; step < len(l); step++ {
		var m []api.Line
		for i := range l {
			m = append(m, l[i*step%len(l)])
		}
		if _, twice := twiceByWords(m); twice {
			continue
		}
		if got := ident.Sorted(m); !slices.Equal(got, l) {
			t.Fatalf("Sorted, step %d: %v", step, got)
		}
	}
}

func TestIdentitiesComeBack(t *testing.T) {
	l := rising()
	for c := range 64 {
		for d := range 64 {
			l = append(l, line(set(c, d), 64*c+d+1), line(all&^set(c, d), top-64*c-d))
		}
	}
	seen := map[string]api.Line{}
	for _, x := range l {
		text := ident.Text(x)
		if other, is := seen[text]; is && other != x {
			t.Fatalf("%v and %v have the text %q", x, other, text)
		}
		seen[text] = x
		a, n, e := ident.Parse(text)
		if x.N >= 1 && (a != x.Label || n != x.N || e != api.OK) || x.N < 1 && (a != 0 || n != 0 || e != api.ErrForm) {
			t.Fatalf("Parse(%q): %x, %d, error %d, want %v", text, a, n, e, x)
		}
	}
	for text, x := range rightTexts() {
		if got := ident.Text(x); got != text {
			t.Fatalf("Text(%v): %q, want %q", x, got, text)
		}
	}
}

// R1

func TestNilCountersHaveNothing(t *testing.T) {
	var x *ident.Ids
	for _, a := range labels() {
		if n, e := x.Next(a); n != 0 || e != api.ErrNil {
			t.Errorf("Next(%x): %d, error %d", a, n, e)
		}
		if n := x.Last(a); n != 0 {
			t.Errorf("Last(%x): %d", a, n)
		}
	}
	if y := x.Copy(); y != nil {
		t.Errorf("Copy: %v", y)
	}
}

func TestCountersMadeOtherwiseDoNotPanic(t *testing.T) {
	x := &ident.Ids{}
	y := x.Copy()
	for _, a := range labels() {
		x.Last(a)
		x.Next(a)
		y.Next(a)
		x.Copy().Next(a)
	}
}

// R2

func TestCountersDoNotSeeOneAnother(t *testing.T) {
	l := []api.Line{line(set(3), 4)}
	x, y := begun(t, l...), begun(t, l...)
	next(t, x, set(3), 5)
	if _, e := ident.New([]api.Line{line(set(3), 9), line(set(3), 0)}); e != api.ErrDoc {
		t.Errorf("New: error %d", e)
	}
	z := begun(t)
	next(t, x, set(9), 1)
	next(t, z, set(3), 1)
	next(t, y, set(3), 5)
	holds(t, "the first one", x, map[api.Label]int{set(3): 5, set(9): 1})
	holds(t, "the second one", y, map[api.Label]int{set(3): 5})
	holds(t, "the third one", z, map[api.Label]int{set(3): 1})
}

// R3

func TestWhatIsHandedInIsNeitherChangedNorKept(t *testing.T) {
	room := []api.Line{{Label: set(9), N: 2, Rev: 1, Text: "c"}, {Label: set(3), N: 4, Text: "a"}, {Label: set(3), N: 1, Text: "b"}, {Label: set(3), N: 4}, {N: -1}}
	given := slices.Clone(room)
	l := room[:3]
	x := begun(t, l...)
	if place, twice := ident.Twice(l); place != 0 || twice {
		t.Errorf("Twice: %d, %v", place, twice)
	}
	sorted := ident.Sorted(l)
	if !slices.Equal(room, given) {
		t.Errorf("the lines are changed: %v", room)
	}
	writeAll(room, api.Line{Label: set(3), N: 77, Text: "written"})
	if want := []api.Line{given[2], given[1], given[0]}; !slices.Equal(sorted, want) {
		t.Errorf("Sorted: %v", sorted)
	}
	holds(t, "New", x, map[api.Label]int{set(3): 4, set(9): 2})
	next(t, x, set(3), 5)
}

func TestWhatIsHandedOutIsNew(t *testing.T) {
	for _, count := range []int{0, 1, 2, 7, 100} {
		room := mixed(count + 3)
		given := slices.Clone(room)
		l := room[:count]
		first, second := ident.Sorted(l), ident.Sorted(l)
		want := slices.Clone(second)
		writeAll(first, api.Line{N: 77, Text: "written"})
		if !slices.Equal(room, given) {
			t.Errorf("writing into Sorted of %d changed the lines", count)
		}
		if third := ident.Sorted(l); !slices.Equal(second, want) || !slices.Equal(third, want) {
			t.Errorf("Sorted of %d: %v, then %v", count, second, third)
		}
		inOrder := ident.Sorted(want) // What stands in order already is new memory, too.
		writeAll(inOrder, api.Line{N: 77, Text: "written"})
		if !slices.Equal(second, want) || !slices.Equal(ident.Sorted(second), want) {
			t.Errorf("writing into Sorted of %d changed what was in order", count)
		}
	}
}

// writeAll writes over a list and over the room behind its end.
func writeAll[T any](l []T, with T) {
	l = l[:cap(l)]
	for i := range l {
		l[i] = with
	}
}
