package diff_test

import (
	"fmt"
	"slices"
	"strconv"
	"strings"
	"testing"

	"scrim/api"
	"scrim/diff"
)

// two are lists that are held against each other.
type two struct{ a, b []string }

// of are the texts that words with blanks between them are.
func of(words string) []string { return strings.Fields(words) }

// numbered are so many texts that stand in no other list here.
func numbered(name string, count int) []string {
	l := make([]string, count)
	for i := range l {
		l[i] = name + strconv.Itoa(i)
	}
	return l
}

// repeated is one text so many times.
func repeated(text string, count int) []string { return slices.Repeat([]string{text}, count) }

// middles are two lists, one of them of more than two texts, that neither begin nor end alike, and have one text in common.
func middles(countA, countB int) two {
	p := two{numbered("a", countA), numbered("b", countB)}
	p.a[countA/2], p.b[countB/2] = "common", "common"
	return p
}

// between are two lists that begin and end with these, too.
func between(p two, ahead, behind []string) two {
	return two{slices.Concat(ahead, p.a, behind), slices.Concat(ahead, p.b, behind)}
}

// by are lists of a few texts, of so many kinds, that hang on the seed alone.
func by(seed, count, kinds int) []string {
	l := make([]string, count)
	for i := range l {
		seed = (seed*1103515245 + 12345) % (1 << 31)
		l[i] = string(rune('a' + seed>>16%kinds))
	}
	return l
}

// small are pairs of short lists.
func small() map[string]two {
	long := strings.Repeat("x", 1<<16)
	return map[string]two{
		"none in either":                  {},
		"empty lists":                     {[]string{}, []string{}},
		"none, and an empty list":         {nil, []string{}},
		"none in the one":                 {nil, of("a")},
		"none in the other":               {of("a"), nil},
		"none in the one of some":         {nil, of("a b c a")},
		"none in the other of some":       {of("a b c a"), []string{}},
		"one text":                        {of("a"), of("a")},
		"one text against another":        {of("a"), of("b")},
		"one text against two others":     {of("a"), of("b c")},
		"one text that begins two":        {of("a"), of("a b")},
		"one text that ends two":          {of("b"), of("a b")},
		"one text in the middle of three": {of("b"), of("a b c")},
		"twice the same":                  {of("a b c d"), of("a b c d")},
		"twice one text many times":       {of("a a a a"), of("a a a a")},
		"nothing in common":               {of("a b c"), of("d e f g")},
		"the beginning of the other":      {of("a b"), of("a b c d")},
		"that begins with the other":      {of("a b c d"), of("a b")},
		"the end of the other":            {of("c d"), of("a b c d")},
		"that ends with the other":        {of("a b c d"), of("c d")},
		"within the other":                {of("b c"), of("a b c d")},
		"beginning or end, a a":           {of("a a"), of("a")},
		"a against a a":                   {of("a"), of("a a")},
		"beginning or end, a b a":         {of("a b a"), of("a")},
		"beginning or end, a a a a":       {of("a a a a"), of("a a")},
		"beginning or end, a b a b":       {of("a b a b"), of("a b")},
		"beginning and end that overlap":  {of("a b c b c d"), of("a b c d")},
		"the other way that overlap":      {of("a b a"), of("a b a b a")},
		"a middle in the one alone":       {of("a x y b"), of("a b")},
		"a middle in the other alone":     {of("a b"), of("a x y b")},
		"one text changed":                {of("a b c"), of("a x c")},
		"texts changed, and between":      {of("a b c d e"), of("a x c y e")},
		"the first and the last changed":  {of("a b c"), of("x b y")},
		"turned about":                    {of("a b c d"), of("d c b a")},
		"two exchanged":                   {of("a b"), of("b a")},
		"the first moved to the end":      {of("a b c d"), of("b c d a")},
		"the last moved to the beginning": {of("b c d a"), of("a b c d")},
		"in pieces":                       {of("a b c d"), of("b d")},
		"in pieces, the others":           {of("b d"), of("a b c d")},
		"by turns":                        {of("a b a b a b"), of("b a b a b a")},
		"a greedy look would err":         {of("p a b c"), of("a b c p")},
		"a classic":                       {of("a b c a b b a"), of("c b a b a c")},
		"empty texts":                     {[]string{"", "", ""}, []string{""}},
		"an empty text against one":       {[]string{""}, of("a")},
		"empty texts between":             {[]string{"a", "", "b", ""}, []string{"", "b", "", "a"}},
		"any bytes":                       {[]string{"\n", "\x00", "\xff\xfe", "é"}, []string{"\x00", "\n", "é", "\xff\xfe"}},
		"bytes that are no runes":         {[]string{"\xff", "\xfe"}, []string{"\xfe", "\ufffd"}},
		"texts that are a line's end":     {[]string{"a\nb", "a", "b"}, []string{"a", "b", "a\nb"}},
		"one beginning":                   {[]string{"a", "aa", "aaa"}, []string{"aa", "aaa", "a"}},
		"great and small letters":         {of("A b C"), of("a B c")},
		"long texts":                      {[]string{long + "a", long, long + "b"}, []string{long, long + "b", long + "a"}},
	}
}

// lists are those, and longer ones.
func lists() map[string]two {
	m := small()
	for seed := range 40 {
		m[fmt.Sprintf("some, by %d", seed)] = two{by(seed, 5+seed*3, 2+seed%9), by(seed+1000, 70-seed, 2+seed%9)}
	}
	m["with much ahead and behind"] = between(small()["a classic"], numbered("p", 3000), numbered("q", 3000))
	m["what must not stay for its number"] = between(middles(1024, 1025), of("p q"), of("r"))
	m["one removed of many"] = two{numbered("p", 5000), slices.Delete(numbered("p", 5000), 2500, 2501)}
	return m
}

// tiny goes over all pairs of lists of at most so many texts of so many kinds.
func tiny(most, kinds int, each func(two)) {
	every := [][]string{nil}
	for at := 0; at < len(every); at++ {
		for k := range kinds {
			if len(every[at]) < most {
				every = append(every, append(slices.Clone(every[at]), []string{"", "b", "\n"}[k]))
			}
		}
	}
	for _, a := range every {
		for _, b := range every {
			each(two{a, b})
		}
	}
}

// edges are how many texts the beginning and the end have, by the words.
func edges(p two) (ahead, behind int) {
	for i := range p.a {
		if i < len(p.b) && p.a[i] == p.b[i] && ahead == i {
			ahead = i + 1
		}
	}
	for i := 1; i <= len(p.a)-ahead && i <= len(p.b)-ahead; i++ {
		if p.a[len(p.a)-i] == p.b[len(p.b)-i] && behind == i-1 {
			behind = i
		}
	}
	return ahead, behind
}

// middle is what is left between the edges.
func middle(p two) two {
	ahead, behind := edges(p)
	return two{p.a[ahead : len(p.a)-behind], p.b[ahead : len(p.b)-behind]}
}

// mostFrom tells by the words how many pairs that rise in both and are the same there can be from two places on: the first texts are paired, or one of them is in no pair.
func mostFrom(p two) func(i, j int) int {
	known := map[[2]int]int{}
	var from func(i, j int) int
	from = func(i, j int) int {
		if i == len(p.a) || j == len(p.b) {
			return 0
		}
		n, is := known[[2]int{i, j}]
		if !is {
			n = max(from(i+1, j), from(i, j+1))
			if p.a[i] == p.b[j] {
				n = max(n, 1+from(i+1, j+1))
			}
			known[[2]int{i, j}] = n
		}
		return n
	}
	return from
}

// walked are the pairs of two middles' places, by the words.
func walked(m two) [][2]int {
	if len(m.a)*len(m.b) > 1<<20 {
		return nil
	}
	var pairs [][2]int
	most := mostFrom(m)
	for i, j := 0, 0; i < len(m.a) && j < len(m.b); {
		if m.a[i] == m.b[j] {
			pairs = append(pairs, [2]int{i, j})
			i++
			j++
		} else if x, y := most(i+1, j), most(i, j+1); x >= y {
			i++
		} else {
			j++
		}
	}
	return pairs
}

// stays are the pairs of what stays, by the words.
func stays(p two) [][2]int {
	ahead, behind := edges(p)
	var pairs [][2]int
	for i := range ahead {
		pairs = append(pairs, [2]int{i, i})
	}
	for _, x := range walked(middle(p)) {
		pairs = append(pairs, [2]int{x[0] + ahead, x[1] + ahead})
	}
	for i := range behind {
		pairs = append(pairs, [2]int{len(p.a) - behind + i, len(p.b) - behind + i})
	}
	return pairs
}

// gaps are the hunks between pairs, by the words.
func gaps(p two, pairs [][2]int) []api.Hunk {
	var hunks []api.Hunk
	i, j := 0, 0
	for k := range len(pairs) + 1 {
		endA, endB := len(p.a), len(p.b)
		if k < len(pairs) {
			endA, endB = pairs[k][0], pairs[k][1]
		}
		if endA != i || endB != j {
			hunks = append(hunks, api.Hunk{At: i, Old: p.a[i:endA], New: p.b[j:endB]})
		}
		i, j = endA+1, endB+1
	}
	return hunks
}

// shown is how a list begins.
func shown[T any](l []T) string {
	s := fmt.Sprintf("%q", fmt.Sprint(l[:min(len(l), 50)]))
	return fmt.Sprintf("%d of %s", len(l), s[:min(len(s), 400)])
}

// shownBoth is how two lists begin.
func shownBoth(p two) string { return shown(p.a) + " and " + shown(p.b) }

// same tells a fault, unless two lists are the same.
func same[T comparable](t *testing.T, name string, got, want []T) {
	t.Helper()
	if !slices.Equal(got, want) {
		t.Fatalf("%s: %s, want %s", name, shown(got), shown(want))
	}
}

// sameHunks tells a fault, unless two patches are the same.
func sameHunks(t *testing.T, name string, got, want []api.Hunk) {
	t.Helper()
	if !slices.EqualFunc(got, want, func(x, y api.Hunk) bool {
		return x.At == y.At && slices.Equal(x.Old, y.Old) && slices.Equal(x.New, y.New)
	}) {
		t.Fatalf("%s: %s, want %s", name, shown(got), shown(want))
	}
}

// hasEdges tells a fault, unless two lists begin and end with so many.
func hasEdges(t *testing.T, name string, p two, ahead, behind int) {
	t.Helper()
	if gotAhead, gotBehind := diff.Edges(p.a, p.b); gotAhead != ahead || gotBehind != behind {
		t.Fatalf("%s: Edges of %s: %d, %d, want %d, %d", name, shownBoth(p), gotAhead, gotBehind, ahead, behind)
	}
}

// hasSize tells a fault, unless a patch takes so many texts off, and adds so many.
func hasSize(t *testing.T, name string, hunks []api.Hunk, removed, added int) {
	t.Helper()
	if gotRemoved, gotAdded := diff.Size(hunks); gotRemoved != removed || gotAdded != added {
		t.Fatalf("%s: Size(%s): %d, %d, want %d, %d", name, shown(hunks), gotRemoved, gotAdded, removed, added)
	}
}

// stay tells a fault, unless what stays of two lists, and the patch, are these.
func stay(t *testing.T, name string, p two, pairs [][2]int) {
	t.Helper()
	name += ": of " + shownBoth(p)
	same(t, name+": Common", diff.Common(p.a, p.b), pairs)
	sameHunks(t, name+": Lines", diff.Lines(p.a, p.b), gaps(p, pairs))
}

// asTheWordsSay tells a fault, unless what can be asked of two lists is answered by the words.
func asTheWordsSay(t *testing.T, name string, p two) {
	t.Helper()
	ahead, behind := edges(p)
	hasEdges(t, name, p, ahead, behind)
	stay(t, name, p, stays(p))
}

// turned are both lists from the last to the first.
func turned(p two) two {
	p = two{slices.Clone(p.a), slices.Clone(p.b)}
	slices.Reverse(p.a)
	slices.Reverse(p.b)
	return p
}

// The chapter's own examples.

func TestTheChaptersEdges(t *testing.T) {
	hasEdges(t, "the chapter's", two{of("a b c"), of("a x c")}, 1, 1)
	hasEdges(t, "the chapter's", two{of("a a"), of("a")}, 1, 0)
	hasEdges(t, "the chapter's", two{nil, of("a")}, 0, 0)
	same(t, "Common(a b c, a x c)", diff.Common(of("a b c"), of("a x c")), [][2]int{{0, 0}, {2, 2}})
}

func TestTheChaptersPatches(t *testing.T) {
	sameHunks(t, "Lines(a b c, a x c)", diff.Lines(of("a b c"), of("a x c")), []api.Hunk{{At: 1, Old: of("b"), New: of("x")}})
	sameHunks(t, "Lines(a b, a b)", diff.Lines(of("a b"), of("a b")), nil)
	sameHunks(t, "Lines(none, a)", diff.Lines(nil, of("a")), []api.Hunk{{At: 0, New: of("a")}})
	sameHunks(t, "Lines(a b c d, b d)", diff.Lines(of("a b c d"), of("b d")), []api.Hunk{{At: 0, Old: of("a")}, {At: 2, Old: of("c")}})
	exchanged := diff.Lines(of("a b"), of("b a"))
	sameHunks(t, "Lines(a b, b a)", exchanged, []api.Hunk{{At: 0, Old: of("a")}, {At: 2, New: of("a")}})
	hasSize(t, "of Lines(a b, b a)", exchanged, 1, 1)
}

// P7.1

func TestMaxWorkIsAsTheChapterSays(t *testing.T) {
	if diff.MaxWork != 1048576 {
		t.Errorf("MaxWork: %d", diff.MaxWork)
	}
}

func TestEdgesAndWhatStays(t *testing.T) {
	for name, p := range lists() {
		asTheWordsSay(t, name, p)
		asTheWordsSay(t, name+", the other one first", two{p.b, p.a})
		asTheWordsSay(t, name+", from the last to the first", turned(p))
	}
}

func TestEdgesAndWhatStaysOfAllTinyLists(t *testing.T) {
	tiny(4, 3, func(p two) { asTheWordsSay(t, "tiny", p) })
	tiny(6, 2, func(p two) { asTheWordsSay(t, "tiny", p) })
}

func TestTheEndHasWhatTheBeginningLeaves(t *testing.T) {
	hasEdges(t, "a a a against a a", two{of("a a a"), of("a a")}, 2, 0)
	hasEdges(t, "a b a against a", two{of("a b a"), of("a")}, 1, 0)
	hasEdges(t, "a b a against a a", two{of("a b a"), of("a a")}, 1, 1)
	hasEdges(t, "a b c b c d against a b c d", two{of("a b c b c d"), of("a b c d")}, 3, 1)
	hasEdges(t, "a b a b a against a b a", two{of("a b a b a"), of("a b a")}, 3, 0)
	hasEdges(t, "b c against a b c", two{of("b c"), of("a b c")}, 0, 2)
	hasEdges(t, "a b c d against the same", two{of("a b c d"), of("a b c d")}, 4, 0)
	for count := range 50 {
		hasEdges(t, "one text again and again", two{repeated("a", count), repeated("a", 50)}, count, 0)
		hasEdges(t, "one text again and again, and another", two{slices.Insert(repeated("a", 50), count, "b"), repeated("a", 50)}, count, 50-count)
	}
}

func TestWhatGrowsWhereTextsAreUnlike(t *testing.T) {
	stay(t, "x is y", two{of("a b"), of("b a")}, [][2]int{{1, 0}})
	stay(t, "x is y, the other one first", two{of("b a"), of("a b")}, [][2]int{{1, 0}})
	stay(t, "x is y, both 0", two{of("a b"), of("c d")}, nil)
	stay(t, "x is y, both 2", two{of("p a q b"), of("q a p b c")}, [][2]int{{2, 0}, {3, 3}})
	stay(t, "x is more", two{of("p b c"), of("b c p")}, [][2]int{{1, 0}, {2, 1}})
	stay(t, "y is more", two{of("b c p"), of("p b c")}, [][2]int{{0, 1}, {1, 2}})
	stay(t, "x is more by one of many", two{of("p b c d q"), of("b c d p r")}, [][2]int{{1, 0}, {2, 1}, {3, 2}})
	stay(t, "x is more, then y", two{of("p a b c d q e"), of("a b p e c d r")}, [][2]int{{1, 0}, {2, 1}, {3, 4}, {4, 5}})
	stay(t, "where texts are the same, both grow", two{of("p a x a q"), of("a a r")}, [][2]int{{1, 0}, {3, 1}})
	stay(t, "the first of those that are the same", two{of("p a a q"), of("a r")}, [][2]int{{1, 0}})
	stay(t, "the first of those that are the same, in the other one", two{of("a r"), of("p a a q")}, [][2]int{{0, 1}})
}

func TestNoneOfTheMiddlesStayBeyondMaxWork(t *testing.T) {
	for _, within := range [][2]int{{1024, 1024}, {1, 1 << 20}, {1 << 20, 1}, {2, 1 << 19}, {1 << 19, 2}, {1023, 1025}, {1025, 1023}, {3, (1 << 20) / 3}, {1, 1<<20 - 1}} {
		for _, ends := range [][2]int{{0, 0}, {3, 0}, {0, 2}, {2000, 3000}} {
			if max(within[0], within[1]) > 2000 && ends[0] > 0 {
				continue
			}
			name := fmt.Sprintf("middles of %d and %d, edges of %d and %d", within[0], within[1], ends[0], ends[1])
			onlyOneStays(t, name, within[0], within[1], ends[0], ends[1], true)
			onlyOneStays(t, name+", one more in the one", within[0]+1, within[1], ends[0], ends[1], (within[0]+1)*within[1] <= 1<<20)
			onlyOneStays(t, name+", one more in the other", within[0], within[1]+1, ends[0], ends[1], within[0]*(within[1]+1) <= 1<<20)
		}
	}
}

// onlyOneStays tells a fault, unless of middles that have one text in common just that one stays, or none, and all of the edges.
func onlyOneStays(t *testing.T, name string, countA, countB, ahead, behind int, stays bool) {
	t.Helper()
	p := between(middles(countA, countB), numbered("p", ahead), numbered("q", behind))
	var want [][2]int
	for i := range ahead {
		want = append(want, [2]int{i, i})
	}
	if stays {
		want = append(want, [2]int{ahead + countA/2, ahead + countB/2})
	}
	for i := range behind {
		want = append(want, [2]int{ahead + countA + i, ahead + countB + i})
	}
	hasEdges(t, name, p, ahead, behind)
	stay(t, name, p, want)
}

func TestManyOfTheMiddlesStayUpToMaxWork(t *testing.T) {
	common := numbered("common", 1022)
	p := two{slices.Concat(of("a"), common, of("b")), slices.Concat(of("c"), common, of("d"))}
	if got := diff.Common(p.a, p.b); len(got) != 1022 || got[0] != [2]int{1, 1} || got[1021] != [2]int{1022, 1022} {
		t.Errorf("of 1024 against 1024: %d stay", len(got))
	}
	p.b = append(p.b, "e")
	if got := diff.Common(p.a, p.b); len(got) != 0 {
		t.Errorf("of 1024 against 1025: %d stay", len(got))
	}
	p.a, p.b = append(p.a, common...), append(p.b, common...)
	if got := diff.Common(p.a, p.b); len(got) != 1022 || got[0] != [2]int{1024, 1025} {
		t.Errorf("of 1024 against 1025, and 1022 behind: %d stay", len(got))
	}
}

func TestLongListsWithAMiddleInOneAlone(t *testing.T) {
	long := numbered("p", 1<<18)
	for _, at := range []int{0, 1, 1 << 17, 1<<18 - 1, 1 << 18} {
		p := two{long, slices.Insert(slices.Clone(long), at, numbered("new", 1<<18)...)}
		hasEdges(t, "many put in", p, at, len(long)-at)
		sameHunks(t, "many put in", diff.Lines(p.a, p.b), []api.Hunk{{At: at, New: numbered("new", 1<<18)}})
		sameHunks(t, "many taken out", diff.Lines(p.b, p.a), []api.Hunk{{At: at, Old: numbered("new", 1<<18)}})
	}
}

// P7.2

func TestOneHunkForEachGap(t *testing.T) {
	p := two{of("a b c d e f g"), of("x b d y z f g w")}
	sameHunks(t, "gaps of all kinds", diff.Lines(p.a, p.b), []api.Hunk{
		{At: 0, Old: of("a"), New: of("x")}, {At: 2, Old: of("c")}, {At: 4, Old: of("e"), New: of("y z")}, {At: 7, New: of("w")},
	})
	sameHunks(t, "the other one first", diff.Lines(p.b, p.a), []api.Hunk{
		{At: 0, Old: of("x"), New: of("a")}, {At: 2, New: of("c")}, {At: 3, Old: of("y z"), New: of("e")}, {At: 7, Old: of("w")},
	})
	sameHunks(t, "nothing in common", diff.Lines(of("a b"), of("c")), []api.Hunk{{At: 0, Old: of("a b"), New: of("c")}})
	sameHunks(t, "all goes", diff.Lines(of("a b"), nil), []api.Hunk{{At: 0, Old: of("a b")}})
	sameHunks(t, "behind the end", diff.Lines(of("a b"), of("a b c")), []api.Hunk{{At: 2, New: of("c")}})
	sameHunks(t, "empty texts", diff.Lines([]string{""}, []string{"", ""}), []api.Hunk{{At: 1, New: []string{""}}})
}

func TestOneHunkForMiddlesBeyondMaxWork(t *testing.T) {
	m := middles(1024, 1025)
	p := between(m, of("p q"), of("r"))
	sameHunks(t, "1024 against 1025", diff.Lines(p.a, p.b), []api.Hunk{{At: 2, Old: m.a, New: m.b}})
	sameHunks(t, "1025 against 1024", diff.Lines(p.b, p.a), []api.Hunk{{At: 2, Old: m.b, New: m.a}})
}

func TestSizeCountsTheTexts(t *testing.T) {
	hasSize(t, "none", nil, 0, 0)
	hasSize(t, "an empty list", []api.Hunk{}, 0, 0)
	hasSize(t, "one", []api.Hunk{{At: 4, Old: of("a b c"), New: of("d")}}, 3, 1)
	hasSize(t, "three", []api.Hunk{{Old: of("a")}, {At: 2, New: of("b c")}, {At: 9, Old: of("d e"), New: of("f g h")}}, 3, 5)
	hasSize(t, "no patch", []api.Hunk{{}, {At: -1, Old: []string{"\n", strings.Repeat("x", 999)}}, {At: -1}, {New: []string{""}}, {New: []string{""}}}, 2, 2)
}

// P7.3

// mayBe tells whether hunks stand behind one another, with a text between, and none is empty.
func mayBe(hunks []api.Hunk) bool {
	behind := -1
	for _, h := range hunks {
		if h.At <= behind || len(h.Old)+len(h.New) == 0 {
			return false
		}
		behind = h.At + len(h.Old)
	}
	return true
}

// applied is what comes of texts; false, if the patch does not fit them.
func applied(texts []string, hunks []api.Hunk) ([]string, bool) {
	texts = slices.Clone(texts)
	for _, h := range slices.Backward(hunks) {
		end := h.At + len(h.Old)
		if end > len(texts) || !slices.Equal(texts[h.At:end], h.Old) {
			return nil, false
		}
		texts = slices.Concat(texts[:h.At], h.New, texts[end:])
	}
	return texts, true
}

// leads tells a fault, unless the patch fits the one list and makes the other out of it, and its size is what is left of both.
func leads(t *testing.T, name string, p two) {
	t.Helper()
	name += ": Lines of " + shownBoth(p)
	hunks, common := diff.Lines(p.a, p.b), diff.Common(p.a, p.b)
	if got, fits := applied(p.a, hunks); !mayBe(hunks) || !fits || !slices.Equal(got, p.b) {
		t.Fatalf("%s: %s: may be: %v, fits: %v, leads to %s", name, shown(hunks), mayBe(hunks), fits, shown(got))
	}
	if (len(hunks) == 0) != slices.Equal(p.a, p.b) {
		t.Fatalf("%s: %d hunks", name, len(hunks))
	}
	hasSize(t, name, hunks, len(p.a)-len(common), len(p.b)-len(common))
}

func TestThePatchLeadsFromTheOneToTheOther(t *testing.T) {
	for name, p := range lists() {
		leads(t, name, p)
		leads(t, name+", the other one first", two{p.b, p.a})
		leads(t, name+", from the last to the first", turned(p))
		leads(t, name+", the one twice", two{p.a, slices.Clone(p.a)})
	}
	tiny(4, 3, func(p two) { leads(t, "tiny", p) })
	tiny(6, 2, func(p two) { leads(t, "tiny", p) })
}

func TestThePatchLeadsFromEachOfAListsPiecesToEach(t *testing.T) {
	l := of("a b a a b c a b")
	for from := range l {
		for end := from; end <= len(l); end++ {
			for at := range l {
				leads(t, "pieces of one list", two{l[from:end], l[at:]})
				leads(t, "pieces of one list", two{l[at:], l[from:end]})
			}
		}
	}
}

// P7.4

// notMore tells a fault, unless as much stays as can, and the patch takes off and adds at most what the middles have.
func notMore(t *testing.T, name string, p two) {
	t.Helper()
	name += ": Common of " + shownBoth(p)
	pairs, m := diff.Common(p.a, p.b), middle(p)
	for k, x := range pairs {
		if k > 0 && (x[0] <= pairs[k-1][0] || x[1] <= pairs[k-1][1]) || p.a[x[0]] != p.b[x[1]] {
			t.Fatalf("%s: %s: the pair %d", name, shown(pairs), k)
		}
	}
	if removed, added := diff.Size(diff.Lines(p.a, p.b)); removed > len(m.a) || added > len(m.b) {
		t.Fatalf("%s: %d removed of a middle of %d, %d added of %d", name, removed, len(m.a), added, len(m.b))
	}
	if len(m.a)*len(m.b) > 1<<20 {
		return
	}
	if len(p.a)*len(p.b) < 1<<16 && len(pairs) != mostFrom(p)(0, 0) {
		t.Fatalf("%s: %d stay, want %d", name, len(pairs), mostFrom(p)(0, 0))
	}
	if got := diff.Common(p.b, p.a); len(got) != len(pairs) {
		t.Fatalf("%s: %d stay, turned about %d", name, len(pairs), len(got))
	}
	if back := turned(p); len(diff.Common(back.a, back.b)) != len(pairs) {
		t.Fatalf("%s: %d stay, from the last to the first %d", name, len(pairs), len(diff.Common(back.a, back.b)))
	}
}

func TestNoMoreThanNeeded(t *testing.T) {
	for name, p := range lists() {
		notMore(t, name, p)
	}
	notMore(t, "just MaxWork", two{by(1, 1024, 9), by(2, 1024, 9)})
	tiny(4, 3, func(p two) { notMore(t, "tiny", p) })
	tiny(6, 2, func(p two) { notMore(t, "tiny", p) })
}

// P7.5

// renamed are lists whose texts are made others, unlike ones unlike, like ones like.
func renamed(p two, name func(string) string) two {
	var r two
	for _, s := range p.a {
		r.a = append(r.a, name(s))
	}
	for _, s := range p.b {
		r.b = append(r.b, name(s))
	}
	return r
}

func TestOnlyWhichTextsAreAlikeCounts(t *testing.T) {
	for name, p := range lists() {
		count := len(p.a) + len(p.b) // which falls, so that what was less is more
		numbers := map[string]string{}
		for way, rename := range map[string]func(string) string{
			"longer":      func(s string) string { return s + "\n" + strings.Repeat("\xff", 300) },
			"other bytes": func(s string) string { return strings.Map(func(r rune) rune { return r + 1 }, fmt.Sprintf("%q", s)) },
			"numbers": func(s string) string {
				if numbers[s] == "" {
					numbers[s], count = fmt.Sprint(count), count-1
				}
				return numbers[s]
			},
		} {
			if len(p.a) > 1000 && way == "longer" {
				continue
			}
			samePlaces(t, name+", "+way, p, renamed(p, rename))
		}
	}
}

// samePlaces tells a fault, unless two lists and two others have the same places.
func samePlaces(t *testing.T, name string, p, r two) {
	t.Helper()
	ahead, behind := diff.Edges(p.a, p.b)
	hasEdges(t, name, r, ahead, behind)
	same(t, name+": Common", diff.Common(r.a, r.b), diff.Common(p.a, p.b))
	places := func(hunks []api.Hunk) (l [][3]int) {
		for _, h := range hunks {
			l = append(l, [3]int{h.At, len(h.Old), len(h.New)})
		}
		return l
	}
	same(t, name+": Lines", places(diff.Lines(r.a, r.b)), places(diff.Lines(p.a, p.b)))
}

// R2

func TestAskedAgainItIsAnsweredTheSame(t *testing.T) {
	for name, p := range small() {
		pairs, hunks := diff.Common(p.a, p.b), diff.Lines(p.a, p.b)
		for _, other := range small() {
			diff.Edges(other.a, other.b)
			diff.Common(other.b, other.a)
			diff.Size(diff.Lines(other.a, other.b))
		}
		same(t, name+": Common, again", diff.Common(p.a, p.b), pairs)
		sameHunks(t, name+": Lines, again", diff.Lines(p.a, p.b), hunks)
	}
}

func TestManyThatAskAtATimeAreAnsweredTheSame(t *testing.T) {
	p := two{by(3, 60, 4), by(4, 70, 4)}
	pairs := diff.Common(p.a, p.b)
	answers := make(chan [][2]int)
	for range 8 {
		go func() { answers <- diff.Common(p.a, p.b) }()
	}
	for range 8 {
		if got := <-answers; !slices.Equal(got, pairs) {
			t.Errorf("%v, want %v", got, pairs)
		}
	}
}

// R3

// writeAll writes over a list and over the room behind its end.
func writeAll[T any](l []T, with T) {
	l = l[:cap(l)]
	for i := range l {
		l[i] = with
	}
}

// roomy are texts, and behind their end some more that the list has room for.
func roomy(l []string) []string { return slices.Concat(l, []string{"a", "", "behind"}) }

func TestWhatIsHandedInIsNotChangedAndNotReadBeyondItsEnd(t *testing.T) {
	for name, p := range lists() {
		room := two{roomy(p.a), roomy(p.b)}
		given := two{slices.Clone(room.a), slices.Clone(room.b)}
		asked := two{room.a[:len(p.a)], room.b[:len(p.b)]}
		ahead, behind := diff.Edges(p.a, p.b)
		hasEdges(t, name+", with room behind", asked, ahead, behind)
		stay(t, name+", with room behind", asked, diff.Common(p.a, p.b))
		same(t, name+", what is handed in", room.a, given.a)
		same(t, name+", what is handed in", room.b, given.b)
	}
}

func TestSizeChangesNoHunks(t *testing.T) {
	room := []api.Hunk{{At: 1, Old: roomy(of("x y")), New: roomy(of("z"))}, {At: 9, New: of("w")}, {At: 7, Old: of("v"), New: of("u")}}
	room[0].Old, room[0].New = room[0].Old[:2], room[0].New[:1]
	hasSize(t, "with room behind", room[:2], 2, 2)
	sameHunks(t, "what is handed in", room, []api.Hunk{{At: 1, Old: of("x y"), New: of("z")}, {At: 9, New: of("w")}, {At: 7, Old: of("v"), New: of("u")}})
	same(t, "behind the texts", room[0].Old[:5], roomy(of("x y")))
}

func TestWhatIsHandedOutIsNew(t *testing.T) {
	for name, p := range small() {
		given := two{slices.Clone(p.a), slices.Clone(p.b)}
		wantPairs, wantHunks := stays(p), gaps(given, stays(p))
		first, second := diff.Common(p.a, p.b), diff.Common(p.a, p.b)
		writeAll(first, [2]int{-1, -1})
		same(t, name+", written into an answer: another one", second, wantPairs)
		stay(t, name+", written into an answer: a later one", p, wantPairs)
		one, other := diff.Lines(p.a, p.b), diff.Lines(p.a, p.b)
		for _, h := range one {
			writeAll(h.Old, "written")
			writeAll(h.New, "written")
		}
		writeAll(one, api.Hunk{At: -1, Old: of("written")})
		sameHunks(t, name+", written into an answer: another one", other, wantHunks)
		sameHunks(t, name+", written into an answer: a later one", diff.Lines(p.a, p.b), wantHunks)
		same(t, name+", written into an answer: what was handed in", p.a, given.a)
		same(t, name+", written into an answer: what was handed in", p.b, given.b)
	}
}

func TestNoTwoListsOfOneAnswerShareAny(t *testing.T) {
	for name, p := range small() {
		want := gaps(p, stays(p))
		for at := range 2 * len(want) {
			hunks := diff.Lines(p.a, p.b)
			wantHere := slices.Clone(want)
			if at%2 == 0 {
				writeAll(hunks[at/2].Old, "written")
				wantHere[at/2].Old = repeated("written", len(want[at/2].Old))
			} else {
				writeAll(hunks[at/2].New, "written")
				wantHere[at/2].New = repeated("written", len(want[at/2].New))
			}
			sameHunks(t, fmt.Sprintf("%s, written into the list %d", name, at), hunks, wantHere)
		}
	}
}

func TestWhatIsHandedOutStaysAsItIs(t *testing.T) {
	for name, p := range small() {
		mine := two{roomy(p.a), roomy(p.b)}
		asked := two{mine.a[:len(p.a)], mine.b[:len(p.b)]}
		pairs, hunks := diff.Common(asked.a, asked.b), diff.Lines(asked.a, asked.b)
		writeAll(mine.a, "written")
		writeAll(mine.b, "written")
		same(t, name+", written over behind the asking: Common", pairs, stays(p))
		sameHunks(t, name+", written over behind the asking: Lines", hunks, gaps(p, stays(p)))
	}
}

// R6

func TestEmptyListsAreTheSame(t *testing.T) {
	for _, empty := range [][]string{nil, {}, make([]string, 0, 5)} {
		for _, other := range [][]string{nil, {}, of("a"), of("a b")[:0]} {
			p := two{empty, other}
			hasEdges(t, "empty", p, 0, 0)
			stay(t, "empty", p, nil)
			stay(t, "empty, the other one first", two{other, empty}, nil)
		}
	}
	hasSize(t, "empty texts of hunks", []api.Hunk{{Old: []string{}, New: nil}, {Old: nil, New: []string{}}}, 0, 0)
}
