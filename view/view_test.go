package view_test

import (
	"fmt"
	"iter"
	"math"
	"slices"
	"strings"
	"testing"

	"scrim/api"
	"scrim/view"
)

const (
	none = api.Label(0)
	all  = api.Label(math.MaxUint64)
	top  = 1 << 62
)

// set is the label of compartments.
func set(compartments ...int) api.Label {
	a := none
	for _, c := range compartments {
		a |= 1 << c
	}
	return a
}

// line is a line of that label, whose other fields tell which one it is.
func line(a api.Label, n int) api.Line {
	return api.Line{Label: a, N: n, Rev: n % 5, Text: fmt.Sprintf("%x, %d", a, n)}
}

// written is a line that stands nowhere but where a test writes it.
func written() api.Line { return api.Line{Label: set(59), N: 1, Rev: 7, Text: "written"} }

// labels rise as numbers, and neither by how many compartments they have nor by their texts.
func labels() []api.Label {
	return []api.Label{
		none, set(0), set(1), set(0, 1), set(2), set(1, 2), set(0, 1, 2), set(3), set(0, 1, 2, 3), set(9), set(10), set(3, 10), set(31), set(32), set(31, 32),
		set(62), set(63), set(0, 63), set(3, 63), set(62, 63), all &^ (1<<63 | 1), all &^ (1 << 63), all &^ 1, all,
	}
}

// few are labels of two compartments.
func few() []api.Label { return []api.Label{none, set(0), set(63), set(0, 63)} }

// ofTheChapter is the document of the chapter's examples.
func ofTheChapter() []api.Line {
	return []api.Line{
		{N: 1, Text: "a"}, {Label: set(1), N: 1, Text: "b"}, {Label: set(2), N: 1, Text: "c"}, {Label: set(1, 2), N: 1, Text: "d"}, {Label: set(1), N: 2, Text: "e"},
	}
}

// many are lines of all labels, in no order.
func many(count int) []api.Line {
	l := make([]api.Line, count)
	for i := range l {
		l[i] = line(labels()[i*i*7%len(labels())], i*29%count+1)
	}
	return l
}

// ofLabel are lines of one label.
func ofLabel(a api.Label, count int) []api.Line {
	l := make([]api.Line, count)
	for i := range l {
		l[i] = line(a, count-i)
	}
	return l
}

// small are lists of a few lines; some of them may be no documents.
func small() map[string][]api.Line {
	var every, falling []api.Line
	for i, a := range labels() {
		every = append(every, line(a, 20-i))
		falling = slices.Insert(falling, 0, line(a, 3))
	}
	return map[string][]api.Line{
		"no lines":              nil,
		"an empty list":         {},
		"one of no compartment": {line(none, 4)},
		"one of 0":              {line(set(0), 4)},
		"one of 63":             {line(set(63), 4)},
		"one of all":            {line(all, 4)},
		"the chapter's":         ofTheChapter(),
		"some of one label":     ofLabel(set(3), 4),
		"by turns":              {line(none, 2), line(set(63), 2), line(none, 1), line(set(63), 1), line(none, 3)},
		"by turns, the others":  {line(set(63), 2), line(none, 2), line(set(63), 1), line(none, 1), line(set(63), 3)},
		"in pieces":             {line(set(0), 1), line(set(0), 2), line(all, 1), line(all, 2), line(set(0), 3), line(none, 1), line(all, 3)},
		"all labels":            every,
		"all labels, falling":   falling,
		"the ends":              {{N: top, Rev: top}, {Label: all, N: top, Rev: top}, {Label: set(63), N: 1, Text: strings.Repeat("x", 256)}},
		"one Rev and text":      {{N: 1, Rev: 3, Text: "a"}, {N: 2, Rev: 3, Text: "a"}, {Label: 1, N: 1, Rev: 3, Text: "a"}},

		"a line of zeros":           {{}},
		"lines of zeros":            {{}, {}, {}},
		"an N of 0":                 {{Text: "a"}, {Label: set(63), Text: "b"}, {N: 1, Text: "c"}},
		"numbers of no line":        {{N: -1, Rev: -1}, {N: top + 1, Rev: top + 1}, {Label: set(0), N: math.MinInt, Rev: math.MinInt}, {Label: set(63), N: math.MaxInt, Rev: math.MaxInt}},
		"texts of no line":          {{N: 1, Text: "a\nb"}, {Label: set(63), N: 1, Text: "\n"}, {N: 2, Text: strings.Repeat("x", 257)}, {N: 3, Text: strings.Repeat("\n", 1<<12)}, {N: 4, Text: "\x00\xff"}},
		"an identity twice":         {{N: 1, Text: "a"}, {Label: set(63), N: 1, Text: "b"}, {N: 1, Text: "c"}, {Label: set(63), N: 1, Rev: 4, Text: "b"}},
		"a line twice":              {line(set(0), 1), line(none, 1), line(set(0), 1), line(none, 1)},
		"one line, again and again": {line(set(0), 1), line(set(0), 1), line(set(0), 1), line(set(0), 1)},
	}
}

// documents are those, and long ones.
func documents() map[string][]api.Line {
	m := small()
	m["300 lines"] = many(300)
	m["more lines of a label than a submit may leave"] = ofLabel(set(3), api.MaxLinesPerLabel+9)
	m["more lines than a service takes"] = many(api.MaxLines + 1)
	return m
}

// tiny goes over all lists of at most so many lines with few labels.
func tiny(most int, each func([]api.Line)) {
	var longer func([]api.Line)
	longer = func(l []api.Line) {
		each(l)
		for _, a := range few() {
			if len(l) < most {
				longer(append(slices.Clone(l), line(a, len(l)+1)))
			}
		}
	}
	longer(nil)
}

// below tells by the words whether all compartments of a label are in another one.
func below(a, b api.Label) bool {
	for c := range 64 {
		if a>>c&1 == 1 && b>>c&1 == 0 {
			return false
		}
	}
	return true
}

// split is a document as a clearance has it, by the words.
func split(doc []api.Line, c api.Label) (seen, hidden []api.Line, places, hiddenPlaces []int) {
	for i, l := range doc {
		if below(l.Label, c) {
			seen, places = append(seen, l), append(places, i)
		} else {
			hidden, hiddenPlaces = append(hidden, l), append(hiddenPlaces, i)
		}
	}
	return seen, hidden, places, hiddenPlaces
}

// viewed are the lines that are seen, by the words.
func viewed(doc []api.Line, c api.Label) []api.Line {
	seen, _, _, _ := split(doc, c)
	return seen
}

// gathered are the lines that an iterator goes over, and their places.
func gathered(each iter.Seq2[int, api.Line]) (l []api.Line, places []int) {
	for i, x := range each {
		l, places = append(l, x), append(places, i)
	}
	return l, places
}

// goesOver tells a fault, unless an iterator goes over these lines at these places.
func goesOver(t *testing.T, name string, each iter.Seq2[int, api.Line], want []api.Line, wantPlaces []int) {
	t.Helper()
	if got, places := gathered(each); !slices.Equal(got, want) || !slices.Equal(places, wantPlaces) {
		t.Fatalf("%s: goes over %.400v at %.100v, want %.400v at %.100v", name, got, places, want, wantPlaces)
	}
}

// same tells a fault, unless two lists are the same.
func same[T comparable](t *testing.T, name string, got, want []T) {
	t.Helper()
	if !slices.Equal(got, want) {
		t.Fatalf("%s: %.400v, want %.400v", name, got, want)
	}
}

// sees tells a fault, unless what can be asked of a document and a clearance is answered by the words.
func sees(t *testing.T, name string, doc []api.Line, c api.Label) {
	t.Helper()
	name = fmt.Sprintf("%s, to %x", name, c)
	seen, hidden, places, _ := split(doc, c)
	same(t, name+": Of", view.Of(doc, c), seen)
	same(t, name+": Hidden", view.Hidden(doc, c), hidden)
	same(t, name+": Places", view.Places(doc, c), places)
	goesOver(t, name+": Each", view.Each(doc, c), seen, places)
}

// put is what Put answers, if it is not refused.
func put(t *testing.T, name string, doc []api.Line, c api.Label, l []api.Line) []api.Line {
	t.Helper()
	got, e := view.Put(doc, c, l)
	if e != api.OK {
		t.Fatalf("%s, to %x: Put(%.200v): error %d", name, c, l, e)
	}
	return got
}

// noPut tells a fault, unless Put is refused.
func noPut(t *testing.T, name string, doc []api.Line, c api.Label, l []api.Line) {
	t.Helper()
	if got, e := view.Put(doc, c, l); len(got) != 0 || e != api.ErrArg {
		t.Fatalf("%s, to %x: Put of %d lines: %.200v, error %d", name, c, len(l), got, e)
	}
}

// alike tells a fault, unless two documents are alike for a clearance, or unlike, whichever is handed in first.
func alike(t *testing.T, name string, a, b []api.Line, c api.Label, want bool) {
	t.Helper()
	if got, turned := view.Alike(a, b, c), view.Alike(b, a, c); got != want || turned != want {
		t.Fatalf("%s: Alike(%.200v, %.200v, %x): %v, turned about %v, want %v", name, a, b, c, got, turned, want)
	}
}

// with are the lines with others put in.
func with(l []api.Line, at int, more ...api.Line) []api.Line {
	return slices.Concat(l[:at], more, l[at:])
}

// without are the lines but for the one at a place.
func without(l []api.Line, at int) []api.Line { return slices.Concat(l[:at], l[at+1:]) }

// in are the lines with another one at a place.
func in(l []api.Line, at int, x api.Line) []api.Line {
	l = slices.Clone(l)
	l[at] = x
	return l
}

// turned are the lines from the last to the first.
func turned(l []api.Line) []api.Line {
	l = slices.Clone(l)
	slices.Reverse(l)
	return l
}

// fresh are so many lines of a label that stand in no document here.
func fresh(a api.Label, count int) []api.Line {
	l := make([]api.Line, count)
	for i := range l {
		l[i] = api.Line{Label: a, N: 90000 - i, Rev: i, Text: fmt.Sprintf("fresh %d", i)}
	}
	return l
}

// laid is what Put must answer, by the words.
func laid(doc []api.Line, c api.Label, l []api.Line) []api.Line {
	doc = slices.Clone(doc)
	_, _, places, _ := split(doc, c)
	for i, at := range places {
		doc[at] = l[i]
	}
	return doc
}

// The chapter's own examples.

func TestTheChaptersViews(t *testing.T) {
	d := ofTheChapter()
	a, b, c, e := d[0], d[1], d[2], d[4]
	same(t, "Of(D, {1})", view.Of(d, set(1)), []api.Line{a, b, e})
	same(t, "Of(D, {})", view.Of(d, none), []api.Line{a})
	same(t, "Of(D, {1 2})", view.Of(d, set(1, 2)), d)
	same(t, "Hidden(D, {1})", view.Hidden(d, set(1)), []api.Line{c, d[3]})
	same(t, "Places(D, {1})", view.Places(d, set(1)), []int{0, 1, 4})
	if !view.Own(set(1), b) || view.Own(set(1), a) {
		t.Errorf("Own({1}, b): %v, Own({1}, a): %v", view.Own(set(1), b), view.Own(set(1), a))
	}
}

func TestTheChaptersPut(t *testing.T) {
	d := ofTheChapter()
	x, y, z := api.Line{N: 7, Text: "x"}, api.Line{Label: set(1), N: 8, Text: "y"}, api.Line{Label: set(1), N: 9, Text: "z"}
	alike(t, "the chapter's", d, []api.Line{d[0], d[1], d[4]}, set(1), true)
	alike(t, "the chapter's", d, []api.Line{d[0], d[1], d[4]}, set(2), false)
	same(t, "Put(D, {1}, x y z)", put(t, "the chapter's", d, set(1), []api.Line{x, y, z}), []api.Line{x, y, d[2], d[3], z})
	noPut(t, "the chapter's", d, set(1), []api.Line{x})
	same(t, "Labels(D)", view.Labels(d), []api.Label{none, set(1), set(2), set(1, 2)})
}

// P6.1

func TestSeenIsWhoseLabelIsBelow(t *testing.T) {
	for _, c := range labels() {
		for _, a := range labels() {
			for _, l := range []api.Line{{Label: a}, line(a, 1), {Label: a, N: -1, Rev: top + 1, Text: "a\nb"}} {
				if got := view.Seen(c, l); got != below(a, c) {
					t.Errorf("Seen(%x, %v): %v", c, l, got)
				}
				if got := view.Own(c, l); got != (a == c) {
					t.Errorf("Own(%x, %v): %v", c, l, got)
				}
			}
		}
	}
}

func TestSeenAsksEachCompartment(t *testing.T) {
	for i := range 64 {
		l := line(set(i), 1)
		if !view.Seen(set(i), l) || !view.Seen(all, l) || view.Seen(all&^set(i), l) || view.Seen(none, l) || !view.Seen(set(i), line(none, 1)) {
			t.Errorf("the compartment %d: Seen", i)
		}
		if !view.Own(set(i), l) || view.Own(all, l) || view.Own(none, l) || view.Own(all&^set(i), l) || view.Own(set(i), line(none, 1)) {
			t.Errorf("the compartment %d: Own", i)
		}
		for j := range 64 {
			if both := line(set(i, j), 1); view.Seen(set(i), both) != (i == j) || !view.Seen(set(i, j), both) {
				t.Errorf("the compartments %d and %d: Seen", i, j)
			}
		}
	}
}

func TestViewsAreWhatIsSeen(t *testing.T) {
	for name, doc := range documents() {
		for _, c := range labels() {
			sees(t, name, doc, c)
		}
		sees(t, name+", turned about", turned(doc), set(0, 1, 2, 63))
	}
}

func TestViewsOfAllTinyLists(t *testing.T) {
	tiny(6, func(doc []api.Line) {
		for _, c := range few() {
			sees(t, "tiny", doc, c)
		}
	})
}

func TestNoneIsSeenAndAllAreSeen(t *testing.T) {
	for _, a := range labels() {
		doc := ofLabel(a, 5)
		for _, c := range labels() {
			want, wantHidden := doc, []api.Line(nil)
			if !below(a, c) {
				want, wantHidden = nil, doc
			}
			same(t, fmt.Sprintf("lines of %x, to %x", a, c), view.Of(doc, c), want)
			same(t, fmt.Sprintf("lines of %x, to %x, hidden", a, c), view.Hidden(doc, c), wantHidden)
			if got := len(view.Places(doc, c)); got != len(want) {
				t.Errorf("lines of %x, to %x: %d places", a, c, got)
			}
		}
	}
}

func TestTextsAreTheLinesTexts(t *testing.T) {
	for name, doc := range documents() {
		var want []string
		for _, l := range doc {
			want = append(want, l.Text)
		}
		same(t, name+": Texts", view.Texts(doc), want)
	}
	doc := []api.Line{{Text: "b"}, {}, {Text: "a"}, {Text: "b"}, {Text: ""}, {Text: "\n"}}
	same(t, "Texts", view.Texts(doc), []string{"b", "", "a", "b", "", "\n"})
}

// P6.2

func TestADocumentIsAlikeItselfAndItsViewAlone(t *testing.T) {
	for name, doc := range documents() {
		for _, c := range labels() {
			seen, hidden, _, _ := split(doc, c)
			alike(t, name, doc, slices.Clone(doc), c, true)
			alike(t, name+", its view", doc, seen, c, true)
			alike(t, name+", what is hidden", hidden, nil, c, true)
			alike(t, name+", no lines", doc, nil, c, len(seen) == 0)
			alike(t, name+", what is hidden behind it all", doc, slices.Concat(hidden, seen, hidden), c, true)
			alike(t, name+", it and its view", doc, slices.Concat(doc, seen), c, len(seen) == 0)
		}
	}
}

func TestUnlikeInOneFieldAlone(t *testing.T) {
	for name, doc := range small() {
		for _, c := range labels() {
			_, _, places, _ := split(doc, c)
			for _, at := range places {
				for field, l := range inOneField(doc[at], c) {
					alike(t, fmt.Sprintf("%s, another %s at %d", name, field, at), doc, in(doc, at, l), c, false)
				}
			}
		}
	}
}

// inOneField are lines that differ from one in one field alone; of another label, if there is one that the clearance sees, too.
func inOneField(l api.Line, c api.Label) map[string]api.Line {
	m := map[string]api.Line{
		"label, the opposite": {Label: ^l.Label, N: l.N, Rev: l.Rev, Text: l.Text},
		"N":                   {Label: l.Label, N: l.N + 1, Rev: l.Rev, Text: l.Text},
		"Rev":                 {Label: l.Label, N: l.N, Rev: l.Rev + 1, Text: l.Text},
		"Text":                {Label: l.Label, N: l.N, Rev: l.Rev, Text: "other"},
		"Text, a longer one":  {Label: l.Label, N: l.N, Rev: l.Rev, Text: l.Text + " "},
	}
	if c != none {
		m["label, one that is seen"] = api.Line{Label: l.Label ^ c&-c, N: l.N, Rev: l.Rev, Text: l.Text}
	}
	return m
}

func TestUnlikeInOrderOrNumber(t *testing.T) {
	for name, doc := range small() {
		for _, c := range labels() {
			_, _, places, _ := split(doc, c)
			for i, at := range places {
				alike(t, fmt.Sprintf("%s, without %d", name, at), doc, without(doc, at), c, false)
				alike(t, fmt.Sprintf("%s, with %d twice", name, at), doc, with(doc, at, doc[at]), c, false)
				alike(t, fmt.Sprintf("%s, with one at %d", name, at), doc, with(doc, at, fresh(c, 1)...), c, false)
				for _, other := range places[:i] {
					swapped := in(in(doc, at, doc[other]), other, doc[at])
					alike(t, fmt.Sprintf("%s, %d and %d swapped", name, at, other), doc, swapped, c, doc[at] == doc[other])
				}
			}
			alike(t, name+", with one at the end", doc, with(doc, len(doc), fresh(c, 1)...), c, false)
		}
	}
}

func TestAlikeWhateverIsHidden(t *testing.T) {
	for name, doc := range small() {
		for _, c := range labels() {
			_, _, _, places := split(doc, c)
			for _, at := range places {
				l := doc[at]
				alike(t, fmt.Sprintf("%s, without %d", name, at), doc, without(doc, at), c, true)
				alike(t, fmt.Sprintf("%s, %d moved", name, at), doc, with(without(doc, at), 0, l), c, true)
				alike(t, fmt.Sprintf("%s, another one at %d", name, at), doc, in(doc, at, api.Line{Label: l.Label, N: -5, Rev: 99, Text: "other"}), c, true)
				alike(t, fmt.Sprintf("%s, one of all at %d", name, at), doc, in(doc, at, api.Line{Label: all}), c, true)
			}
			for at := range len(doc) + 1 {
				if c != all {
					alike(t, fmt.Sprintf("%s, hidden ones put in at %d", name, at), doc, with(doc, at, line(all, 1), line(all, 1)), c, true)
				}
			}
		}
	}
}

func TestAlikeForOneAndNotForAnother(t *testing.T) {
	for name, doc := range small() {
		for at, l := range doc {
			for _, c := range labels() {
				alike(t, fmt.Sprintf("%s, without %d", name, at), doc, without(doc, at), c, !below(l.Label, c))
			}
		}
	}
}

func TestAlikeOfAllTinyLists(t *testing.T) {
	var lists [][]api.Line
	tiny(3, func(doc []api.Line) { lists = append(lists, doc) })
	for _, a := range lists {
		for _, b := range lists {
			for _, c := range few() {
				if got := view.Alike(a, b, c); got != slices.Equal(viewed(a, c), viewed(b, c)) {
					t.Fatalf("Alike(%v, %v, %x): %v", a, b, c, got)
				}
			}
		}
	}
}

func TestPutLaysLinesInTheirPlaces(t *testing.T) {
	for name, doc := range documents() {
		for _, c := range labels() {
			seen := viewed(doc, c)
			for kind, l := range map[string][]api.Line{
				"fresh": fresh(c, len(seen)), "turned about": turned(seen), "not seen": fresh(^c, len(seen)), "zeros": make([]api.Line, len(seen)), "one line": slices.Repeat([]api.Line{written()}, len(seen)),
			} {
				same(t, fmt.Sprintf("%s, to %x: Put, %s", name, c, kind), put(t, name, doc, c, l), laid(doc, c, l))
			}
		}
	}
}

func TestPutOfAllTinyLists(t *testing.T) {
	tiny(5, func(doc []api.Line) {
		for _, c := range few() {
			for count := range len(doc) + 2 {
				l := fresh(set(0), count)
				if count != len(viewed(doc, c)) {
					noPut(t, "tiny", doc, c, l)
					continue
				}
				same(t, "tiny: Put", put(t, "tiny", doc, c, l), laid(doc, c, l))
			}
		}
	})
}

func TestPutRefusesAnotherNumberOfLines(t *testing.T) {
	for name, doc := range documents() {
		for _, c := range labels() {
			count := len(viewed(doc, c))
			for _, other := range []int{0, 1, count - 1, count + 1, count + 2, 2 * count, len(doc), len(doc) + 1} {
				if other >= 0 && other != count {
					noPut(t, name, doc, c, fresh(c, other))
					noPut(t, name, doc, c, make([]api.Line, other))
				}
			}
			if count != len(doc) {
				noPut(t, name+", the whole document", doc, c, doc)
			}
		}
	}
}

func TestPutOfNone(t *testing.T) {
	doc := ofLabel(set(63), 3)
	for _, l := range [][]api.Line{nil, {}} {
		noPut(t, "none where some are seen", doc, all, l)
		noPut(t, "none where one is seen", with(doc, 1, line(none, 1)), none, l)
		same(t, "none where none is seen", put(t, "three of 63", doc, none, l), doc)
		same(t, "none where there is none", put(t, "nil", nil, all, l), nil)
		same(t, "none where there is none", put(t, "empty", []api.Line{}, none, l), nil)
	}
	for count := 1; count < 5; count++ {
		noPut(t, "some where none is seen", doc, none, fresh(none, count))
		noPut(t, "some where there is none", nil, all, fresh(none, count))
		noPut(t, "some where there is none", []api.Line{}, none, fresh(none, count))
	}
}

func TestLabelsRise(t *testing.T) {
	for name, doc := range documents() {
		for _, doc := range [][]api.Line{doc, turned(doc), slices.Concat(doc, doc)} {
			var want []api.Label
			for _, l := range doc {
				if !slices.Contains(want, l.Label) {
					want = append(want, l.Label)
				}
			}
			slices.Sort(want)
			same(t, name+": Labels", view.Labels(doc), want)
		}
	}
	doc := []api.Line{line(set(10), 1), line(all, 1), line(set(9), 1), line(set(0, 1, 2), 1), line(none, 1), line(set(9), 2), line(set(63), 1)}
	same(t, "Labels", view.Labels(doc), []api.Label{none, set(0, 1, 2), set(9), set(10), set(63), all})
}

func TestLabelsOfAllTinyLists(t *testing.T) {
	tiny(6, func(doc []api.Line) {
		var want []api.Label
		for _, a := range few() {
			if slices.ContainsFunc(doc, func(l api.Line) bool { return l.Label == a }) {
				want = append(want, a)
			}
		}
		same(t, "tiny: Labels", view.Labels(doc), want)
	})
}

// P6.3

func TestTheViewOfAView(t *testing.T) {
	for name, doc := range documents() {
		for _, c := range labels() {
			for _, d := range labels() {
				if len(doc) > 1000 && c != set(0, 63) && d != set(0, 63) {
					continue
				}
				name := fmt.Sprintf("%s, to %x and %x", name, c, d)
				together := viewed(doc, c&d)
				same(t, name, view.Of(view.Of(doc, c), d), together)
				same(t, name+", turned about", view.Of(view.Of(doc, d), c), together)
				same(t, name+", together", view.Of(doc, c&d), together)
			}
		}
	}
}

func TestSeenAndHiddenAreTheDocument(t *testing.T) {
	for name, doc := range documents() {
		for _, c := range labels() {
			seen, hidden, places := view.Of(doc, c), view.Hidden(doc, c), view.Places(doc, c)
			var together []api.Line
			for i := range doc {
				if len(places) > 0 && places[0] == i {
					together, seen, places = append(together, seen[0]), seen[1:], places[1:]
				} else if len(hidden) > 0 {
					together, hidden = append(together, hidden[0]), hidden[1:]
				}
			}
			same(t, fmt.Sprintf("%s, to %x: seen and hidden", name, c), together, doc)
			if len(seen)+len(hidden)+len(places) != 0 {
				t.Fatalf("%s, to %x: %v, %v and %v are left", name, c, seen, hidden, places)
			}
		}
	}
}

func TestWhoHasMoreSeesMore(t *testing.T) {
	for name, doc := range documents() {
		for _, c := range labels() {
			lesser := view.Places(doc, c)
			for _, d := range labels() {
				if !below(c, d) {
					continue
				}
				greater := view.Places(doc, d)
				var both []int // the places, in the order in which the greater one has them
				for _, at := range greater {
					if _, is := slices.BinarySearch(lesser, at); is {
						both = append(both, at)
					}
				}
				same(t, fmt.Sprintf("%s, to %x: what %x sees", name, d, c), both, lesser)
				same(t, fmt.Sprintf("%s, to %x: the view that %x has of it", name, d, c), view.Of(view.Of(doc, d), c), view.Of(doc, c))
			}
		}
	}
}

// P6.4

func TestWhatIsLeftOutIsNotMissed(t *testing.T) {
	for name, doc := range documents() {
		for _, c := range labels() {
			left := view.Of(doc, c)
			same(t, fmt.Sprintf("%s, to %x: hidden in its view", name, c), view.Hidden(left, c), nil)
			for _, d := range labels() {
				if below(d, c) {
					alike(t, name+", all left out that is hidden", doc, left, d, true)
				}
			}
		}
	}
}

func TestWhatStandsAtHiddenPlacesChangesNoView(t *testing.T) {
	for name, doc := range documents() {
		for _, c := range labels() {
			seen, _, places, hiddenPlaces := split(doc, c)
			for kind, hidden := range map[string]api.Line{"one of all": line(all, 1), "one of the others": line(^c, 1), "a copy of a seen one": {Label: all, N: 1, Text: "a"}} {
				if below(hidden.Label, c) {
					continue
				}
				other := slices.Clone(doc)
				for _, at := range hiddenPlaces {
					other[at] = hidden
				}
				name := fmt.Sprintf("%s, to %x, %s at hidden places", name, c, kind)
				same(t, name+": Of", view.Of(other, c), seen)
				same(t, name+": Places", view.Places(other, c), places)
				same(t, name+": Texts", view.Texts(view.Of(other, c)), view.Texts(seen))
				goesOver(t, name+": Each", view.Each(other, c), seen, places)
				alike(t, name, doc, other, c, true)
			}
		}
	}
}

// P6.5

func TestPutOfTheViewIsTheDocument(t *testing.T) {
	for name, doc := range documents() {
		for _, c := range labels() {
			same(t, fmt.Sprintf("%s, to %x", name, c), put(t, name, doc, c, view.Of(doc, c)), doc)
		}
	}
}

func TestTheViewOfWhatIsPut(t *testing.T) {
	for name, doc := range documents() {
		for _, c := range labels() {
			seen, hidden, places, _ := split(doc, c)
			for _, l := range [][]api.Line{fresh(c, len(seen)), fresh(none, len(seen)), fresh(c&(c-1), len(seen)), turned(seen)} {
				name := fmt.Sprintf("%s, to %x, what is put", name, c)
				got := put(t, name, doc, c, l)
				same(t, name+": Of", view.Of(got, c), l)
				same(t, name+": Hidden", view.Hidden(got, c), hidden)
				same(t, name+": Places", view.Places(got, c), places)
			}
		}
	}
}

func TestHiddenOnesStayWhateverIsPut(t *testing.T) {
	for name, doc := range small() {
		for _, c := range labels() {
			seen, _, _, hiddenPlaces := split(doc, c)
			got := put(t, name, doc, c, fresh(^c, len(seen)))
			for _, at := range hiddenPlaces {
				if got[at] != doc[at] {
					t.Fatalf("%s, to %x: %v at %d, want %v", name, c, got[at], at, doc[at])
				}
			}
		}
	}
}

// R1

func TestAnyTwoLists(t *testing.T) {
	lists := [][]api.Line{make([]api.Line, 1<<12)}
	for _, doc := range small() {
		lists = append(lists, doc)
	}
	for _, a := range lists {
		for _, b := range lists {
			for _, c := range []api.Label{none, set(0), set(63), all} {
				alike(t, "any two", a, b, c, slices.Equal(viewed(a, c), viewed(b, c)))
				if len(viewed(a, c)) != len(b) {
					noPut(t, "any two", a, c, b)
				} else {
					same(t, "any two: Put", put(t, "any two", a, c, b), laid(a, c, b))
				}
			}
		}
	}
}

// R2

func TestAskedAgainItIsAnsweredTheSame(t *testing.T) {
	doc, other := many(50), many(90)
	for _, c := range labels() {
		want, wantLabels := view.Of(doc, c), view.Labels(doc)
		each := view.Each(doc, c)
		sees(t, "another one", other, all)
		sees(t, "another one", other, c)
		noPut(t, "another one", other, all, fresh(none, 91))
		view.Labels(other)
		for range view.Each(other, all) {
			break
		}
		same(t, "Of, again", view.Of(doc, c), want)
		same(t, "Labels, again", view.Labels(doc), wantLabels)
		goesOver(t, "Each, behind others", each, want, view.Places(doc, c))
		sees(t, "again", doc, c)
	}
}

// R3

// writeAll writes over a list and over the room behind its end.
func writeAll[T any](l []T, with T) {
	l = l[:cap(l)]
	for i := range l {
		l[i] = with
	}
}

// roomy are the lines, and behind their end some more that the list has room for.
func roomy(l []api.Line) []api.Line {
	return slices.Concat(l, []api.Line{line(none, 1), {}, line(none, 2)})
}

func TestWhatIsHandedInIsNotChanged(t *testing.T) {
	for name, doc := range documents() {
		room := roomy(doc)
		given := slices.Clone(room)
		for _, c := range labels() {
			sees(t, name+", with room behind it", room[:len(doc)], c)
			view.Texts(room[:len(doc)])
			view.Labels(room[:len(doc)])
			alike(t, name, room[:len(doc)], doc, c, true)
			l := roomy(fresh(c, len(viewed(doc, c))))
			givenPut := slices.Clone(l)
			same(t, name+": Put", put(t, name, room[:len(doc)], c, l[:len(l)-3]), laid(doc, c, l))
			noPut(t, name, room[:len(doc)], c, l)
			same(t, name+", what was put", l, givenPut)
			same(t, name+", what is handed in", room, given)
		}
	}
}

func TestWhatStandsBehindTheEndIsNotRead(t *testing.T) {
	for name, doc := range documents() {
		room := roomy(doc)[:len(doc)]
		same(t, name+": Texts", view.Texts(room), view.Texts(doc))
		same(t, name+": Labels", view.Labels(room), view.Labels(doc))
		for _, c := range labels() {
			noPut(t, name, room, c, fresh(c, len(viewed(doc, c))+2))
			alike(t, name, room, roomy(doc), c, false)
		}
	}
}

func TestWhatIsHandedOutIsNew(t *testing.T) {
	for name, doc := range documents() {
		given := slices.Clone(doc)
		for _, c := range labels() {
			for _, ask := range []func([]api.Line, api.Label) []api.Line{view.Of, view.Hidden} {
				isNew(t, name, doc, given, written(), func() []api.Line { return ask(doc, c) })
			}
			isNew(t, name, doc, given, -1, func() []int { return view.Places(doc, c) })
			l := fresh(c, len(viewed(doc, c)))
			wantPut := slices.Clone(l)
			isNew(t, name, doc, given, written(), func() []api.Line { return put(t, name, doc, c, l) })
			same(t, name+", what was put", l, wantPut)
		}
		isNew(t, name, doc, given, "written", func() []string { return view.Texts(doc) })
		isNew(t, name, doc, given, set(59), func() []api.Label { return view.Labels(doc) })
	}
}

// isNew tells a fault, if what is written into an answer, and behind it, is seen in the document, in another answer or in a later one.
func isNew[T comparable](t *testing.T, name string, doc, given []api.Line, with T, ask func() []T) {
	t.Helper()
	first, second := ask(), ask()
	want := slices.Clone(second)
	writeAll(first, with)
	same(t, name+", written into an answer: the document", doc, given)
	same(t, name+", written into an answer: another one", second, want)
	same(t, name+", written into an answer: a later one", ask(), want)
	writeAll(second, with)
	same(t, name+", written into both: a later one", ask(), want)
}

func TestWhatIsHandedOutStaysAsItIs(t *testing.T) {
	for name, doc := range documents() {
		for _, c := range labels() {
			room := roomy(doc)
			mine := room[:len(doc)]
			seen, hidden, places, _ := split(doc, c)
			l := fresh(c, len(seen))
			of, hid, at := view.Of(mine, c), view.Hidden(mine, c), view.Places(mine, c)
			texts, labels := view.Texts(mine), view.Labels(mine)
			got, wantPut := put(t, name, mine, c, l), laid(doc, c, l)
			writeAll(room, written())
			writeAll(l, written())
			name := fmt.Sprintf("%s, to %x, written over behind the asking", name, c)
			same(t, name+": Of", of, seen)
			same(t, name+": Hidden", hid, hidden)
			same(t, name+": Places", at, places)
			same(t, name+": Texts", texts, view.Texts(doc))
			same(t, name+": Labels", labels, view.Labels(doc))
			same(t, name+": Put", got, wantPut)
		}
	}
}

func TestPutThatPutsNothingHandsOutNewMemory(t *testing.T) {
	doc := ofLabel(set(63), 3)
	want := slices.Clone(doc)
	got := put(t, "three of 63", doc, none, nil)
	writeAll(got, written())
	same(t, "written into what Put answers", doc, want)
	got = put(t, "three of 63", doc, none, []api.Line{})
	writeAll(doc, written())
	same(t, "written into what was handed in", got, want)
}

func TestPutOfPiecesOfTheDocumentItself(t *testing.T) {
	doc := []api.Line{line(set(63), 1), line(none, 1), line(set(63), 2), line(none, 2), line(none, 3)}
	given := slices.Clone(doc)
	for from := range 3 {
		got := put(t, "a piece of it", doc, none, doc[from:from+3])
		same(t, "a piece of it", got, laid(given, none, given[from:from+3]))
		writeAll(got, written())
		same(t, "the document", doc, given)
	}
}

// R6

func TestEmptyListsAreTheSame(t *testing.T) {
	for _, c := range labels() {
		for _, empty := range [][]api.Line{nil, {}, make([]api.Line, 0, 5)} {
			sees(t, "empty", empty, c)
			alike(t, "empty", empty, nil, c, true)
			alike(t, "empty", empty, []api.Line{}, c, true)
			alike(t, "empty", empty, []api.Line{line(none, 1)}, c, false)
			same(t, "empty: Put", put(t, "empty", empty, c, nil), nil)
			same(t, "empty: Put", put(t, "empty", nil, c, empty), nil)
			same(t, "empty: Texts", view.Texts(empty), nil)
			same(t, "empty: Labels", view.Labels(empty), nil)
		}
	}
}

// R8

func TestEachShowsTheLinesAsTheyWere(t *testing.T) {
	for name, doc := range documents() {
		for _, c := range labels() {
			seen, _, places, _ := split(doc, c)
			mine := slices.Clone(doc)
			each := view.Each(mine, c)
			writeAll(mine, line(none, 1)) // which everybody sees
			goesOver(t, name+", written over behind the asking", each, seen, places)
			writeAll(mine, line(all, 1))
			goesOver(t, name+", written over once more", each, seen, places)
		}
	}
}

func TestEachIsNotTouchedByWhatIsWrittenMeanwhile(t *testing.T) {
	for name, doc := range small() {
		for _, c := range labels() {
			seen, _, places, _ := split(doc, c)
			mine := slices.Clone(doc)
			each := func(yield func(int, api.Line) bool) {
				for i, l := range view.Each(mine, c) {
					writeAll(mine, line(none, 1))
					if !yield(i, l) {
						return
					}
				}
			}
			goesOver(t, name+", written over while one goes over it", each, seen, places)
		}
	}
}

func TestEachMayBeLeftAnywhere(t *testing.T) {
	for name, doc := range small() {
		for _, c := range labels() {
			seen, _, places, _ := split(doc, c)
			each := view.Each(doc, c)
			for end := range len(seen) + 1 {
				calls := 0
				each(func(i int, l api.Line) bool {
					if calls < len(seen) && (i != places[calls] || l != seen[calls]) {
						t.Fatalf("%s, to %x: %v at %d", name, c, l, i)
					}
					calls++
					return calls <= end
				})
				if calls != min(end+1, len(seen)) {
					t.Fatalf("%s, to %x, left at %d: %d calls", name, c, end, calls)
				}
			}
			goesOver(t, name+", left before", each, seen, places)
		}
	}
}

func TestEachMayBeGoneOverAgain(t *testing.T) {
	for name, doc := range documents() {
		seen, _, places, _ := split(doc, set(0, 63))
		each := view.Each(doc, set(0, 63))
		for range 3 {
			goesOver(t, name, each, seen, places)
		}
	}
}

func TestEachMayBeGoneOverWhileAnotherRoundIsOn(t *testing.T) {
	for name, doc := range small() {
		for _, c := range []api.Label{none, set(0, 1, 2), set(63), all} {
			seen, _, places, _ := split(doc, c)
			for end := range len(seen) + 1 { // where each round within is left
				each := view.Each(doc, c)
				var outer []api.Line
				for i, l := range each {
					if i != places[len(outer)] {
						t.Fatalf("%s, to %x: the round around is at %d, want %d", name, c, i, places[len(outer)])
					}
					var inner []api.Line
					for _, x := range each {
						if len(inner) == end {
							break
						}
						inner = append(inner, x)
					}
					same(t, name+", a round within", inner, seen[:end])
					outer = append(outer, l)
				}
				same(t, name+", the round around", outer, seen)
			}
		}
	}
}

func TestRoundsOfManyDoNotSeeOneAnother(t *testing.T) {
	doc, other := many(40), turned(many(60))
	for _, c := range []api.Label{none, set(0, 1, 2), set(63), all} {
		seen, _, places, _ := split(doc, c)
		var outer []api.Line
		for _, l := range view.Each(doc, c) {
			sees(t, "another one", other, c)
			sees(t, "another one", other, ^c)
			sees(t, "the same one", doc, ^c)
			goesOver(t, "the same one", view.Each(doc, c), seen, places)
			outer = append(outer, l)
		}
		same(t, "the round around", outer, seen)
	}
}
