package doc_test

import (
	"fmt"
	"iter"
	"math"
	"regexp"
	"slices"
	"strconv"
	"strings"
	"testing"

	"scrim/api"
	"scrim/doc"
)

const (
	none = api.Label(0)
	all  = api.Label(math.MaxUint64)
	top  = 1 << 62
)

// set is the label of compartments.
func set(compartments ...int) api.Label {
	a := none
	for _, c := range compartments {
		a |= 1 << c
	}
	return a
}

// line is a line with that identity, whose Rev and text tell which one it is.
func line(a api.Label, n int) api.Line {
	return api.Line{Label: a, N: n, Rev: n % 5, Text: fmt.Sprintf("%x, %d", a, n)}
}

// labels rise as numbers, and neither by how many compartments they have nor by their texts.
func labels() []api.Label {
	return []api.Label{none, set(0), set(3), set(0, 1, 2, 3), set(9), set(10), set(3, 10), set(62), set(63), set(3, 63), all &^ 1, all}
}

// numbers are places, Ns and Revs of all kinds.
func numbers() []int {
	return []int{math.MinInt, -top, -2, -1, 0, 1, 2, 3, 4, 5, 1 << 31, 1 << 32, top - 1, top, top + 1, math.MaxInt}
}

// texts are those that a line may have.
func texts() []string {
	return []string{"a", "", " ", "  ", " a", "a ", "a b", "- 1 0 a", "#", "0", "\r", "\t", "\x00", "\xff", "\\n", "\u00e4\u2028\U0001f600", strings.Repeat(" ", 256), strings.Repeat("x", 255), strings.Repeat("x", 256), strings.Repeat("\u00e4", 128)}
}

// wrongTexts are those that no line may have.
func wrongTexts() []string {
	return []string{"\n", "a\n", "\na", "a\nb", "\n\n", strings.Repeat("x", 257), strings.Repeat("\u00e4", 129), strings.Repeat("x", 256) + "\n", strings.Repeat("x", 1<<16), strings.Repeat("\n", 256)}
}

// wrongLines are those that may not be.
func wrongLines() []api.Line {
	var l []api.Line
	for _, n := range []int{0, -1, -2, top + 1, math.MaxInt, math.MinInt} {
		l = append(l, api.Line{Label: set(62), N: n, Text: "a"}, api.Line{N: n})
	}
	for _, rev := range []int{-1, -2, top + 1, math.MaxInt, math.MinInt} {
		l = append(l, api.Line{Label: set(62), N: 9, Rev: rev, Text: "a"})
	}
	for _, text := range wrongTexts() {
		l = append(l, api.Line{Label: set(62), N: 9, Text: text})
	}
	return append(l, api.Line{})
}

// many are lines of few labels, in no order.
func many(count int) []api.Line {
	l := make([]api.Line, count)
	for i := range l {
		l[i] = line(labels()[i%5], i*29%count+1)
	}
	return l
}

// small are documents of a few lines.
func small() map[string][]api.Line {
	var ofTexts, every []api.Line
	for i, text := range texts() {
		ofTexts = append(ofTexts, api.Line{Label: set(i % 3), N: 9 - i%9 + 10*i, Rev: i, Text: text})
	}
	for i, a := range labels() {
		every = append(every, line(a, 20-i), line(a, 3))
	}
	return map[string][]api.Line{
		"no lines":                 nil,
		"an empty list":            {},
		"one line":                 {line(set(9), 4)},
		"one line without a text":  {{N: 1}},
		"the chapter's":            {{Label: set(0), N: 1, Text: "a"}, {N: 1, Rev: 2, Text: "b"}},
		"one label, rising":        {line(none, 1), line(none, 2), line(none, 3), line(none, 7)},
		"one label, falling":       {line(set(3), 9), line(set(3), 5), line(set(3), 1)},
		"one N of many labels":     {line(all, 5), line(set(0), 5), line(none, 5), line(set(63), 5)},
		"label and N turned about": {line(2, 1), line(1, 2), line(2, 2), line(1, 1)},
		"one Rev and text":         {{N: 1, Rev: 3, Text: "a"}, {N: 2, Rev: 3, Text: "a"}, {Label: 1, N: 1, Rev: 3, Text: "a"}},
		"the ends":                 {{N: top, Rev: top}, {N: 1, Rev: top - 1}, {Label: all, N: top - 1}, {Label: all, N: top, Rev: 1}, {N: top - 1, Rev: top, Text: "a"}},
		"all texts":                ofTexts,
		"all labels":               every,
	}
}

// documents are those, and long ones.
func documents() map[string][]api.Line {
	m := small()
	var one []api.Line
	for n := range api.MaxLinesPerLabel + 9 {
		one = append(one, line(set(3), n+1))
	}
	m["more lines of a label than a submit may leave"] = one
	m["as many lines as a service takes"] = many(api.MaxLines)
	m["one line more"] = many(api.MaxLines + 1)
	return m
}

// made is the document with the lines.
func made(t *testing.T, l ...api.Line) *doc.Doc {
	t.Helper()
	d, e := doc.New(l)
	if e != api.OK || d == nil {
		t.Fatalf("New(%.200v): %v, error %d", l, d, e)
	}
	return d
}

// done tells a fault, if something was refused.
func done(t *testing.T, e api.Errno) {
	t.Helper()
	if e != api.OK {
		t.Fatalf("error %d", e)
	}
}

// refused tells a fault, unless it was refused with that error and left the lines as they were.
func refused(t *testing.T, name string, d *doc.Doc, want []api.Line, e, wantError api.Errno) {
	t.Helper()
	if e != wantError {
		t.Fatalf("%s: error %d, want %d", name, e, wantError)
	}
	holds(t, name+", refused", d, want)
}

// holds tells a fault, unless all that can be asked of a document is answered as of these lines.
func holds(t *testing.T, name string, d *doc.Doc, want []api.Line) {
	t.Helper()
	if got := d.Lines(); !slices.Equal(got, want) {
		t.Fatalf("%s: Lines %.400v, want %.400v", name, got, want)
	}
	if got := d.Len(); got != len(want) {
		t.Fatalf("%s: Len %d, want %d", name, got, len(want))
	}
	if got := d.Print(); got != printed(want) {
		t.Fatalf("%s: Print %.400q, want %.400q", name, got, printed(want))
	}
	if got := gathered(t, d.All()); !slices.Equal(got, want) {
		t.Fatalf("%s: All %.400v, want %.400v", name, got, want)
	}
	placesHold(t, name, d, want)
	labelsHold(t, name, d, want)
}

// placesHold asks At of all places, and Find of all identities, and of some that there are not.
func placesHold(t *testing.T, name string, d *doc.Doc, want []api.Line) {
	t.Helper()
	stand := map[api.Line]int{}
	for i, x := range want {
		if got, e := d.At(i); got != x || e != api.OK {
			t.Fatalf("%s: At(%d): %v, error %d, want %v", name, i, got, e, x)
		}
		if got, e := d.Find(x.Label, x.N); got != i || e != api.OK {
			t.Fatalf("%s: Find(%x, %d): %d, error %d, want %d", name, x.Label, x.N, got, e, i)
		}
		stand[api.Line{Label: x.Label, N: x.N}] = i
	}
	for _, i := range []int{math.MinInt, -len(want), -1, len(want), len(want) + 1, math.MaxInt} {
		if got, e := d.At(i); (i < 0 || i >= len(want)) && (got != api.Line{} || e != api.ErrArg) {
			t.Fatalf("%s: At(%d): %v, error %d", name, i, got, e)
		}
	}
	for _, a := range append(labels(), 5, 11) {
		for _, n := range numbers() {
			i, is := stand[api.Line{Label: a, N: n}]
			if got, e := d.Find(a, n); got != i || is != (e == api.OK) || !is && e != api.ErrNone {
				t.Fatalf("%s: Find(%x, %d): %d, error %d", name, a, n, got, e)
			}
		}
	}
}

// labelsHold asks Labels and Count.
func labelsHold(t *testing.T, name string, d *doc.Doc, want []api.Line) {
	t.Helper()
	counts := map[api.Label]int{}
	var rising []api.Label
	for _, x := range want {
		if counts[x.Label] == 0 {
			rising = append(rising, x.Label)
		}
		counts[x.Label]++
	}
	slices.Sort(rising)
	if got := d.Labels(); !slices.Equal(got, rising) {
		t.Fatalf("%s: Labels %x, want %x", name, got, rising)
	}
	for _, a := range slices.Concat(labels(), rising, []api.Label{5, 11}) {
		if got := d.Count(a); got != counts[a] {
			t.Fatalf("%s: Count(%x): %d, want %d", name, a, got, counts[a])
		}
	}
}

// printed is the text of lines, as the chapter's words say.
func printed(l []api.Line) string {
	var s strings.Builder
	for _, x := range l {
		text := "-"
		for c, plus := 0, ""; c < 64; c++ {
			if x.Label>>c&1 == 1 {
				text = strings.TrimPrefix(text, "-") + plus + strconv.Itoa(c)
				plus = "+"
			}
		}
		fmt.Fprintf(&s, "%s %d %d %s\n", text, x.N, x.Rev, x.Text)
	}
	return s.String()
}

// gathered are the lines that an iterator goes over, whose places must rise from 0 on.
func gathered(t *testing.T, each iter.Seq2[int, api.Line]) []api.Line {
	t.Helper()
	var l []api.Line
	for i, x := range each {
		if i != len(l) {
			t.Fatalf("the place %d stands behind %d lines", i, len(l))
		}
		l = append(l, x)
	}
	return l
}

// turned are the lines from the last to the first.
func turned(l []api.Line) []api.Line {
	l = slices.Clone(l)
	slices.Reverse(l)
	return l
}

// with are the lines with others put in.
func with(l []api.Line, at int, more ...api.Line) []api.Line {
	return slices.Concat(l[:at], more, l[at:])
}

// without are the lines but for the one at a place.
func without(l []api.Line, at int) []api.Line { return slices.Concat(l[:at], l[at+1:]) }

// changed are the lines, of which one has another text, and a Rev more.
func changed(l []api.Line, at int, text string) []api.Line {
	l = slices.Clone(l)
	l[at].Text = text
	if l[at].Rev < top {
		l[at].Rev++
	}
	return l
}

// P5.1

func TestNewIsTheDocumentWithTheLines(t *testing.T) {
	for name, l := range documents() {
		holds(t, name, made(t, l...), l)
		holds(t, name+", turned about", made(t, turned(l)...), turned(l))
	}
}

func TestTheChaptersDocument(t *testing.T) {
	d := made(t, api.Line{Label: set(0), N: 1, Text: "a"}, api.Line{N: 1, Rev: 2, Text: "b"})
	at, e := d.Find(none, 1)
	_, f := d.Find(set(0), 2)
	if d.Len() != 2 || at != 1 || e != api.OK || f != api.ErrNone || d.Count(set(0)) != 1 || !slices.Equal(d.Labels(), []api.Label{none, set(0)}) {
		t.Errorf("Len %d, Find %d, error %d, error %d, Count %d, Labels %x", d.Len(), at, e, f, d.Count(set(0)), d.Labels())
	}
	if got := d.Print(); got != "0 1 0 a\n- 1 2 b\n" {
		t.Errorf("Print: %q", got)
	}
}

func TestNewRefusesLinesThatMayNotBe(t *testing.T) {
	l := []api.Line{line(set(3), 1), line(none, 2), line(all, 3)}
	for _, wrong := range wrongLines() {
		for at := range len(l) + 1 {
			if d, e := doc.New(with(l, at, wrong)); d != nil || e != api.ErrDoc {
				t.Errorf("New with %.100v at %d: %v, error %d", wrong, at, d, e)
			}
		}
		if d, e := doc.New([]api.Line{wrong}); d != nil || e != api.ErrDoc {
			t.Errorf("New of %.100v: %v, error %d", wrong, d, e)
		}
	}
}

func TestNewRefusesAnIdentityTwice(t *testing.T) {
	for name, l := range documents() {
		for i, x := range l {
			if len(l) > 30 && i%1000 != 0 && i < len(l)-1 {
				continue
			}
			other := api.Line{Label: x.Label, N: x.N, Rev: 77, Text: "another text"}
			for _, at := range []int{0, i, i + 1, len(l)} {
				for _, twice := range []api.Line{x, other} {
					if d, e := doc.New(with(l, at, twice)); d != nil || e != api.ErrDoc {
						t.Fatalf("%s: New with the line %d at %d too: %v, error %d", name, i, at, d, e)
					}
				}
			}
		}
	}
}

func TestLabelsGoWithTheirLastLine(t *testing.T) {
	l := []api.Line{line(set(9), 1), line(none, 1), line(set(9), 2), line(all, 1), line(none, 2)}
	d := made(t, l...)
	for _, x := range []struct {
		gone api.Line
		want []api.Label
	}{
		{l[0], []api.Label{none, set(9), all}},
		{l[3], []api.Label{none, set(9)}},
		{l[2], []api.Label{none}},
		{l[1], []api.Label{none}},
		{l[4], nil},
	} {
		done(t, d.Remove(x.gone.Label, x.gone.N))
		if got := d.Labels(); !slices.Equal(got, x.want) {
			t.Errorf("Labels without %v: %x", x.gone, got)
		}
	}
	done(t, d.Put(0, line(set(10), 1)))
	if got := d.Labels(); !slices.Equal(got, []api.Label{set(10)}) || d.Count(set(10)) != 1 || d.Count(set(9)) != 0 {
		t.Errorf("Labels: %x", got)
	}
}

// P5.2

func TestPutPutsLinesInAtAPlace(t *testing.T) {
	for name, l := range small() {
		for at := range len(l) + 1 {
			for count := range 4 {
				var more []api.Line
				for i := range count {
					more = append(more, api.Line{Label: set(62, i%2), N: 50 - i, Rev: i, Text: "put"})
				}
				d := made(t, l...)
				done(t, d.Put(at, more...))
				holds(t, fmt.Sprintf("%s, %d put at %d", name, count, at), d, with(l, at, more...))
			}
		}
	}
}

func TestPutPutsManyLinesIn(t *testing.T) {
	l, more := many(300), slices.Clone(many(900)[300:])
	for i := range more {
		more[i].N += 300
	}
	for _, at := range []int{0, 1, 150, 299, 300} {
		d := made(t, l...)
		done(t, d.Put(at, more...))
		holds(t, fmt.Sprintf("600 put at %d", at), d, with(l, at, more...))
	}
	d := made(t)
	done(t, d.Put(0, many(api.MaxLines+1)...))
	holds(t, "all put into none", d, many(api.MaxLines+1))
	want := []api.Line{}
	d = made(t)
	for i, x := range l { // one by one, at the beginning and at the end by turns
		done(t, d.Put(i%2*i, x))
		want = with(want, i%2*i, x)
	}
	holds(t, "put one by one", d, want)
}

func TestPutTakesAllLinesThatMayBe(t *testing.T) {
	var l []api.Line
	for _, a := range labels() {
		l = append(l, api.Line{Label: a, N: 1, Rev: top}, api.Line{Label: a, N: top}, api.Line{Label: a, N: top - 1, Rev: top - 1})
	}
	for i, text := range texts() {
		l = append(l, api.Line{Label: set(5), N: i + 1, Text: text})
	}
	d := made(t, line(set(61), 1))
	for _, x := range l {
		done(t, d.Put(d.Len(), x))
	}
	holds(t, "all put", d, with(l, 0, line(set(61), 1)))
}

func TestPutRefusesOtherPlaces(t *testing.T) {
	for name, l := range small() {
		d := made(t, l...)
		for _, at := range []int{math.MinInt, -len(l) - 1, -1, len(l) + 1, len(l) + 2, math.MaxInt} {
			for _, more := range [][]api.Line{nil, {}, {line(set(62), 1)}, {line(set(62), 1), line(set(62), 2)}, {{}}, {line(set(62), 1), line(set(62), 1)}, l} {
				refused(t, fmt.Sprintf("%s, %.100v put at %d", name, more, at), d, l, d.Put(at, more...), api.ErrArg)
			}
		}
	}
}

func TestPutRefusesWhatWereNoDocument(t *testing.T) {
	good := []api.Line{line(set(62), 1), line(none, 51), line(all, 52)}
	wrongs := wrongLines()
	for name, l := range small() {
		d := made(t, l...)
		for i, wrong := range slices.Concat(wrongs, l) { // What stands there already is wrong, too.
			for _, at := range []int{0, len(l) / 2, len(l)} {
				refused(t, fmt.Sprintf("%s, %.100v put at %d", name, wrong, at), d, l, d.Put(at, wrong), api.ErrDoc)
				more := with(good, i%4, wrong)
				refused(t, fmt.Sprintf("%s, %.100v put among others", name, wrong), d, l, d.Put(at, more...), api.ErrDoc)
			}
		}
		for _, more := range [][]api.Line{
			{good[0], good[0]}, {good[0], good[1], good[0]}, {good[1], good[0], good[0]}, {good[0], {Label: set(62), N: 1, Rev: 9, Text: "another text"}},
		} {
			refused(t, name+", twice among themselves", d, l, d.Put(len(l), more...), api.ErrDoc)
		}
		done(t, d.Put(0, good...)) // Nothing of what was refused stands in the way.
		holds(t, name+", put at last", d, with(l, 0, good...))
	}
}

func TestPutRefusesTheIdentityNotTheLine(t *testing.T) {
	l := []api.Line{{Label: set(0), N: 1, Text: "a"}, {Label: set(0), N: 2, Text: "c"}, {N: 1, Rev: 2, Text: "b"}}
	d := made(t, l[0], l[2])
	done(t, d.Put(1, l[1]))
	holds(t, "the chapter's", d, l)
	refused(t, "the chapter's", d, l, d.Put(4, line(set(1), 1)), api.ErrArg)
	refused(t, "the chapter's", d, l, d.Put(0, api.Line{Label: set(0), N: 2, Text: "d"}), api.ErrDoc)
	done(t, d.Put(0, api.Line{Label: set(0), N: 3, Text: "a"})) // a text that stands there already
	holds(t, "the chapter's", d, with(l, 0, api.Line{Label: set(0), N: 3, Text: "a"}))
}

func TestChangeGivesALineAnotherText(t *testing.T) {
	for name, l := range small() {
		for at, x := range l {
			d := made(t, l...)
			want := l
			for i, text := range texts() {
				if (i+at)%4 != 0 && len(l) > 8 {
					continue
				}
				done(t, d.Change(x.Label, x.N, text))
				want = changed(want, at, text)
				holds(t, fmt.Sprintf("%s, the line %d changed to %.20q", name, at, text), d, want)
			}
		}
	}
}

func TestChangeLetsTheRevGrow(t *testing.T) {
	for _, x := range []struct{ rev, want int }{{0, 1}, {1, 2}, {2, 3}, {1 << 32, 1<<32 + 1}, {top - 2, top - 1}, {top - 1, top}, {top, top}} {
		d := made(t, line(none, 2), api.Line{N: 1, Rev: x.rev, Text: "a"}, line(set(0), 1))
		for i, text := range []string{"b", "b", "a"} { // to the same text, too
			done(t, d.Change(none, 1, text))
			want := api.Line{N: 1, Rev: min(x.want+i, top), Text: text}
			holds(t, fmt.Sprintf("Rev %d, changed", x.rev), d, []api.Line{line(none, 2), want, line(set(0), 1)})
		}
	}
}

func TestChangeRefuses(t *testing.T) {
	for name, l := range small() {
		d := made(t, l...)
		for _, x := range l {
			for _, text := range wrongTexts() {
				refused(t, fmt.Sprintf("%s, changed to %.20q", name, text), d, l, d.Change(x.Label, x.N, text), api.ErrLine)
			}
		}
		for _, a := range append(labels(), 5, 11) {
			for _, n := range numbers() {
				if slices.ContainsFunc(l, func(x api.Line) bool { return x.Label == a && x.N == n }) {
					continue
				}
				for _, text := range []string{"a", "", "a\nb", strings.Repeat("x", 257)} { // ErrNone, whatever the text is
					if e := d.Change(a, n, text); e != api.ErrNone {
						t.Fatalf("%s: Change(%x, %d, %.20q): error %d", name, a, n, text, e)
					}
				}
			}
		}
		holds(t, name+", refused", d, l)
	}
}

func TestTheChaptersChanges(t *testing.T) {
	d := made(t, api.Line{Label: set(0), N: 1, Text: "a"}, api.Line{Label: set(0), N: 2, Text: "c"}, api.Line{N: 1, Rev: 2, Text: "b"})
	want := []api.Line{{Label: set(0), N: 1, Text: "a"}, {Label: set(0), N: 2, Text: "c"}, {N: 1, Rev: 3, Text: "x"}}
	done(t, d.Change(none, 1, "x"))
	holds(t, "changed", d, want)
	refused(t, "no such line", d, want, d.Change(none, 9, "x"), api.ErrNone)
	refused(t, "a text with 0A", d, want, d.Change(none, 1, "x\ny"), api.ErrLine)
	done(t, d.Remove(set(0), 1))
	holds(t, "removed", d, want[1:])
	refused(t, "removed once more", d, want[1:], d.Remove(set(0), 1), api.ErrNone)
}

func TestRemoveTakesALineAway(t *testing.T) {
	for name, l := range small() {
		for at, x := range l {
			d := made(t, l...)
			done(t, d.Remove(x.Label, x.N))
			holds(t, fmt.Sprintf("%s, without the line %d", name, at), d, without(l, at))
			refused(t, name+", removed once more", d, without(l, at), d.Remove(x.Label, x.N), api.ErrNone)
			refused(t, name+", changed when it is gone", d, without(l, at), d.Change(x.Label, x.N, "a\nb"), api.ErrNone)
			other := api.Line{Label: x.Label, N: x.N, Rev: 9, Text: "again"}
			done(t, d.Put(0, other))
			holds(t, fmt.Sprintf("%s, with the line %d again", name, at), d, with(without(l, at), 0, other))
		}
	}
}

func TestRemoveTakesAllLinesAway(t *testing.T) {
	l := many(60)
	for step := 1; step < 60; step += 2 {
		if step%3 == 0 || step%5 == 0 {
			continue
		}
		d, left := made(t, l...), l
		for i := range l {
			x := l[i*step%60]
			done(t, d.Remove(x.Label, x.N))
			left = without(left, slices.Index(left, x))
			holds(t, fmt.Sprintf("step %d, %d removed", step, i+1), d, left)
		}
		done(t, d.Put(0, l...))
		holds(t, "all put again", d, l)
	}
}

func TestRemoveRefusesWhatDoesNotStand(t *testing.T) {
	for name, l := range small() {
		d := made(t, l...)
		for _, a := range append(labels(), 5, 11) {
			for _, n := range numbers() {
				if slices.ContainsFunc(l, func(x api.Line) bool { return x.Label == a && x.N == n }) {
					continue
				}
				if e := d.Remove(a, n); e != api.ErrNone {
					t.Fatalf("%s: Remove(%x, %d): error %d", name, a, n, e)
				}
			}
		}
		holds(t, name+", refused", d, l)
	}
}

// altered does one of each to a document that has lines, and tells what it has then.
func altered(t *testing.T, d *doc.Doc, l []api.Line, more api.Line) []api.Line {
	t.Helper()
	first, last := l[0], l[len(l)-1]
	done(t, d.Change(last.Label, last.N, "altered"))
	l = changed(l, len(l)-1, "altered")
	if len(l) > 1 {
		done(t, d.Remove(first.Label, first.N))
		l = l[1:]
	}
	done(t, d.Put(len(l)/2, more))
	return with(l, len(l)/2, more)
}

func TestCopiesGoTheirOwnWays(t *testing.T) {
	for name, l := range documents() {
		d := made(t, l...)
		c := d.Copy()
		holds(t, name+", copied", c, l)
		if len(l) == 0 {
			continue
		}
		ofFirst := altered(t, d, l, line(set(61), 1))
		holds(t, name+", behind what was done to the first one", c, l)
		holds(t, name+", the first one", d, ofFirst)
		ofCopy := altered(t, c, l, line(set(61), 2))
		holds(t, name+", behind what was done to the copy", d, ofFirst)
		holds(t, name+", the copy", c, ofCopy)
		second := c.Copy()
		ofSecond := altered(t, second, ofCopy, line(set(61), 3))
		holds(t, name+", the copy's copy", second, ofSecond)
		holds(t, name+", behind what was done to the copy's copy", c, ofCopy)
		holds(t, name+", the first one at last", d, ofFirst)
	}
}

func TestCopiesOfDocumentsWithoutLines(t *testing.T) {
	emptied := made(t, line(none, 1))
	done(t, emptied.Remove(none, 1))
	for name, d := range map[string]*doc.Doc{"never a line": made(t), "no line any more": emptied} {
		c := d.Copy()
		holds(t, name, c, nil)
		done(t, c.Put(0, line(none, 1)))
		holds(t, name+", behind what was done to the copy", d, nil)
		done(t, d.Put(0, line(none, 1), line(all, 1)))
		holds(t, name+", the copy", c, []api.Line{line(none, 1)})
		holds(t, name+", the first one", d, []api.Line{line(none, 1), line(all, 1)})
	}
}

// P5.3

func TestAllGoesOverTheLines(t *testing.T) {
	for name, l := range documents() {
		d := made(t, l...)
		each := d.All()
		for round := range 3 {
			if got := gathered(t, each); !slices.Equal(got, l) {
				t.Fatalf("%s, round %d: All %.400v", name, round, got)
			}
		}
	}
}

func TestAllMayBeLeft(t *testing.T) {
	for name, l := range small() {
		each := made(t, l...).All()
		for end := range len(l) + 1 {
			var got []api.Line
			for i, x := range each {
				if i == end {
					break
				}
				got = append(got, x)
			}
			if !slices.Equal(got, l[:end]) {
				t.Fatalf("%s, left at %d: All %.400v", name, end, got)
			}
			calls := 0
			each(func(int, api.Line) bool { calls++; return calls < end })
			if want := min(max(end, 1), len(l)); calls != want {
				t.Fatalf("%s, left at %d: %d calls, want %d", name, end, calls, want)
			}
		}
	}
}

func TestAllMayBeGoneOverWhileAnotherRoundIsOn(t *testing.T) {
	l := small()["all labels"]
	each := made(t, l...).All()
	var outer []api.Line
	for i, x := range each {
		if got := gathered(t, each); !slices.Equal(got, l) {
			t.Fatalf("round within round: %v", got)
		}
		for j := range each {
			if j == i {
				break
			}
		}
		outer = append(outer, x)
	}
	if !slices.Equal(outer, l) {
		t.Errorf("the round around: %v", outer)
	}
}

func TestAllShowsTheLinesAsTheyWere(t *testing.T) {
	for name, l := range documents() {
		if len(l) == 0 {
			continue
		}
		d := made(t, l...)
		before := d.All()
		want := altered(t, d, l, line(set(61), 1))
		if got := gathered(t, before); !slices.Equal(got, l) {
			t.Fatalf("%s, altered behind the asking: %.400v", name, got)
		}
		var got []api.Line
		for i, x := range d.All() {
			if i < 5 {
				done(t, d.Put(0, api.Line{Label: set(61), N: 10 + i}))
				done(t, d.Remove(x.Label, x.N))
			}
			got = append(got, x)
		}
		if !slices.Equal(got, want) {
			t.Fatalf("%s, altered while one goes over it: %.400v", name, got)
		}
		if got := gathered(t, before); !slices.Equal(got, l) {
			t.Fatalf("%s, gone over once more: %.400v", name, got)
		}
	}
}

func TestAllOfLinesThatComeLater(t *testing.T) {
	d := made(t)
	before := d.All()
	done(t, d.Put(0, line(none, 1)))
	if got := gathered(t, before); len(got) != 0 {
		t.Errorf("All: %v", got)
	}
	each := d.All()
	done(t, d.Change(none, 1, "altered"))
	done(t, d.Remove(none, 1))
	if got := gathered(t, each); !slices.Equal(got, []api.Line{line(none, 1)}) {
		t.Errorf("All: %v", got)
	}
}

func TestPrintTellsTheText(t *testing.T) {
	for _, x := range []struct {
		l    []api.Line
		want string
	}{
		{nil, ""},
		{[]api.Line{{N: 1}}, "- 1 0 \n"},
		{[]api.Line{{Label: set(3, 7), N: 12, Rev: 5, Text: " a  b "}}, "3+7 12 5  a  b \n"},
		{[]api.Line{{Label: set(10, 9), N: top, Rev: top, Text: "#\x00\xff"}}, "9+10 4611686018427387904 4611686018427387904 #\x00\xff\n"},
		{[]api.Line{{Label: set(0), N: 2, Text: "b"}, {Label: set(0), N: 1, Text: "a"}}, "0 2 0 b\n0 1 0 a\n"},
	} {
		if got := made(t, x.l...).Print(); got != x.want {
			t.Errorf("Print of %v: %q", x.l, got)
		}
	}
}

// parses tells a fault, unless a text is read as these lines.
func parses(t *testing.T, s string, want []api.Line) {
	t.Helper()
	d, e := doc.Parse(s)
	if e != api.OK || d == nil {
		t.Fatalf("Parse(%.200q): %v, error %d", s, d, e)
	}
	holds(t, fmt.Sprintf("Parse(%.200q)", s), d, want)
}

// refusesText tells a fault, unless a text is none of a document.
func refusesText(t *testing.T, s string) {
	t.Helper()
	if d, e := doc.Parse(s); d != nil || e != api.ErrForm {
		t.Fatalf("Parse(%.200q): %v, error %d", s, d, e)
	}
}

func TestParseReadsTexts(t *testing.T) {
	parses(t, "", nil)
	parses(t, "- 1 0 \n", []api.Line{{N: 1}})
	parses(t, "- 1 0  \n", []api.Line{{N: 1, Text: " "}})
	parses(t, "0 1 0 a\n- 1 2 b\n", []api.Line{{Label: set(0), N: 1, Text: "a"}, {N: 1, Rev: 2, Text: "b"}})
	parses(t, "3+7 12 5  a  b \n", []api.Line{{Label: set(3, 7), N: 12, Rev: 5, Text: " a  b "}})
	parses(t, "- 2 0 - 1 0 a\n- 1 0 - 1 0 a\n", []api.Line{{N: 2, Text: "- 1 0 a"}, {N: 1, Text: "- 1 0 a"}})
	parses(t, "9+10 4611686018427387904 4611686018427387904 #\x00\xff\r\n", []api.Line{{Label: set(9, 10), N: top, Rev: top, Text: "#\x00\xff\r"}})
	parses(t, "63 1 0 "+strings.Repeat(" ", 256)+"\n", []api.Line{{Label: set(63), N: 1, Text: strings.Repeat(" ", 256)}})
}

// wrongLineTexts are no line's.
func wrongLineTexts() []string {
	return []string{
		"", " ", "-", "- ", "- 1", "- 1 ", "- 1 0", "1 0 a", "0 1 a", "- 0 a", "-", "a", "-10a", // a word or a blank too few
		" - 1 0 a", "-  1 0 a", "- 1  0 a", "-\t1 0 a", "- 1\t0 a", "- 1 0\ta", "\t- 1 0 a", "- 1 0a", "-1 0 a", "- 10 a", // a blank too many, or another one
		"- 01 0 a", "- 1 00 a", "- 1 01 a", "- +1 0 a", "- 1 +0 a", "- 1 -0 a", "- -0 0 a", "- 1_0 0 a", "- 0x1 0 a", "- 1.0 0 a", "- 1e0 0 a", "- \u0661 0 a", "- x 0 a", "- 1 x a", "- a b c", "- 1: 0 a", "- 1 0: a",
		"- 0 0 a", "- -1 0 a", "- 4611686018427387905 0 a", "- 9223372036854775807 0 a", "- 9223372036854775808 0 a", "- 18446744073709551617 0 a", "- -9223372036854775808 0 a", "- 99999999999999999999 0 a",
		"- 1 -1 a", "- 1 4611686018427387905 a", "- 1 9223372036854775807 a", "- 1 9223372036854775808 a", "- 1 18446744073709551616 a", "- 1 -9223372036854775808 a",
		"7+3 1 0 a", "3+3 1 0 a", "03 1 0 a", "00 1 0 a", "3+ 1 0 a", "+3 1 0 a", "3++7 1 0 a", "3+07 1 0 a", "64 1 0 a", "3+64 1 0 a", "-+3 1 0 a", "3+- 1 0 a", "-- 1 0 a", "-3 1 0 a", "{3} 1 0 a", "3,7 1 0 a", "3+ 7 1 0 a", "x 1 0 a", "3# 1 0 a", "3#1 0 a", "18446744073709551619 1 0 a",
		"\x00- 1 0 a", "\xff 1 0 a", "\ufeff- 1 0 a",
		"- 1 0 " + strings.Repeat("x", 257), "- 1 0 " + strings.Repeat(" ", 257), "- 1 0 " + strings.Repeat("x", 1<<16), "- " + strings.Repeat("1", 1<<16) + " 0 a", "- 1 " + strings.Repeat("0", 1<<16) + " a", strings.Repeat("1+", 1<<16) + "1 1 0 a", strings.Repeat(" ", 1<<16),
	}
}

func TestParseRefusesOtherTexts(t *testing.T) {
	for _, s := range []string{
		"0 1 0 a", "0 01 0 a\n", "0 1 a\n", // the chapter's
		"\n", "\n\n", "a", "a\n", "- 1 0 a\n\n", "\n- 1 0 a\n", "- 1 0 a\n\n- 2 0 b\n", "- 1 0 a\n- 2 0 b", "- 1 0 a\r", "- 1 0 a\x00",
		"- 1 0 a\n- 1 0 a\n", "- 1 0 a\n- 1 5 b\n", "- 1 0 a\n- 2 0 b\n3 1 0 c\n- 1 0 d\n", "3+7 4 0 a\n3 4 0 b\n3+7 4 0 c\n", // an identity twice
		"- 1 0 a\n-", "- 1 0 a\n- 2 0 ", strings.Repeat("\n", 1<<16), strings.Repeat("- 1 0 a\n", 1<<12),
	} {
		refusesText(t, s)
	}
	for _, s := range wrongLineTexts() {
		refusesText(t, s+"\n")
		refusesText(t, s+"\n\n")
		refusesText(t, "3 5 0 x\n"+s+"\n")
		refusesText(t, s+"\n3 5 0 x\n")
		refusesText(t, "3 5 0 x\n"+s+"\n- 6 0 \n")
	}
}

// form is a line's, as far as bytes tell it; its numbers, its label and its text's length are to be asked.
var form = regexp.MustCompile(`^(-|[0-9+]+) (0|-?[1-9][0-9]*) (0|-?[1-9][0-9]*) ([^\n]*)$`)

// parsedByWords does what the chapter's words say, one by one.
func parsedByWords(s string) ([]api.Line, bool) {
	if s == "" {
		return nil, true
	}
	if !strings.HasSuffix(s, "\n") {
		return nil, false
	}
	var l []api.Line
	for text := range strings.SplitSeq(strings.TrimSuffix(s, "\n"), "\n") {
		x, is := lineByWords(text)
		if !is || slices.ContainsFunc(l, func(y api.Line) bool { return y.Label == x.Label && y.N == x.N }) {
			return nil, false
		}
		l = append(l, x)
	}
	return l, true
}

func lineByWords(text string) (api.Line, bool) {
	m := form.FindStringSubmatch(text)
	if m == nil {
		return api.Line{}, false
	}
	a := none
	if m[1] != "-" {
		last := -1
		for word := range strings.SplitSeq(m[1], "+") {
			c, err := strconv.Atoi(word)
			if err != nil || c <= last || c > 63 || strconv.Itoa(c) != word {
				return api.Line{}, false
			}
			a |= 1 << c
			last = c
		}
	}
	n, err := strconv.Atoi(m[2])
	rev, err2 := strconv.Atoi(m[3])
	is := err == nil && err2 == nil && 1 <= n && n <= top && 0 <= rev && rev <= top && len(m[4]) <= 256
	return api.Line{Label: a, N: n, Rev: rev, Text: m[4]}, is
}

// parsesByWords tells a fault, unless a text is read, or refused, as the words say.
func parsesByWords(t *testing.T, s string) {
	t.Helper()
	want, is := parsedByWords(s)
	d, e := doc.Parse(s)
	if is != (e == api.OK) || is != (d != nil) || !is && e != api.ErrForm {
		t.Fatalf("Parse(%.200q): %v, error %d", s, d, e)
	}
	if got := d.Lines(); !slices.Equal(got, want) {
		t.Fatalf("Parse(%.200q): %.400v", s, got)
	}
	if got := d.Print(); is && got != s {
		t.Fatalf("Parse(%.200q) has the text %q", s, got)
	}
}

// words goes over all texts of at most so many of the letters, the empty one too.
func words(letters string, most int, each func(string)) {
	each("")
	if most == 0 {
		return
	}
	for i := range len(letters) {
		words(letters, most-1, func(s string) { each(letters[i:i+1] + s) })
	}
}

func TestParseTakesJustTheTextsOfDocuments(t *testing.T) {
	right := 0
	words("01 -\n", 8, func(s string) {
		parsesByWords(t, s)
		if _, is := parsedByWords(s); is {
			right++
		}
	})
	if right < 50 {
		t.Errorf("only %d texts are right", right)
	}
	words("01+", 7, func(s string) { parsesByWords(t, s+" 1 0 a\n") })
	words("01-", 7, func(s string) { parsesByWords(t, "- "+s+" 0 a\n"); parsesByWords(t, "- 1 "+s+" a\n") })
}

func TestParseOfTextsThatAreAlmostRight(t *testing.T) {
	for _, l := range small() {
		s := printed(l)
		if len(s) > 500 {
			s = s[:strings.LastIndex(s[:500], "\n")+1]
		}
		for i := range len(s) + 1 {
			parsesByWords(t, s[:i])
			parsesByWords(t, s[i:])
			for _, letter := range []string{" ", "\n", "0", "1", "9", "-", "+", "#", "x", "\x00", "\xff"} {
				parsesByWords(t, s[:i]+letter+s[i:])
				if i < len(s) {
					parsesByWords(t, s[:i]+letter+s[i+1:])
				}
			}
			if i < len(s) {
				parsesByWords(t, s[:i]+s[i+1:])
			}
		}
	}
}

// P5.4

func TestTextsComeBack(t *testing.T) {
	for name, l := range documents() {
		for _, l := range [][]api.Line{l, turned(l)} {
			s := made(t, l...).Print()
			d, e := doc.Parse(s)
			if e != api.OK {
				t.Fatalf("%s: Parse of Print: error %d", name, e)
			}
			holds(t, name+", printed and parsed", d, l)
			if got := d.Print(); got != s {
				t.Fatalf("%s: Print of Parse: %.400q", name, got)
			}
		}
	}
	seen := map[string][]api.Line{}
	for name, l := range small() {
		s := made(t, l...).Print()
		if other, is := seen[s]; is && !slices.Equal(other, l) {
			t.Errorf("%s has another one's text: %q", name, s)
		}
		seen[s] = l
	}
}

func TestWhatIsPutAndRemovedLeavesNothing(t *testing.T) {
	more := []api.Line{line(set(61), 3), line(none, 77), {Label: all, N: top - 7, Rev: top, Text: ""}, line(set(61), 2)}
	for name, l := range small() {
		d := made(t, l...)
		for at := range len(l) + 1 {
			done(t, d.Put(at, more...))
			holds(t, fmt.Sprintf("%s, put at %d", name, at), d, with(l, at, more...))
			for i := range more {
				x := more[(i*3+at)%len(more)]
				done(t, d.Remove(x.Label, x.N))
			}
			holds(t, fmt.Sprintf("%s, put at %d and removed", name, at), d, l)
		}
	}
}

// P5.5, P5.6

// dice throws numbers, the same ones each time.
type dice uint64

func (x *dice) below(n int) int {
	*x = *x*6364136223846793005 + 1442695040888963407
	return int(uint64(*x) >> 33 % uint64(n))
}

// thrown are up to three lines of few identities, among them some that may not be.
func (x *dice) thrown() []api.Line {
	l := make([]api.Line, x.below(4))
	for i := range l {
		l[i] = api.Line{Label: labels()[x.below(4)], N: x.below(13), Rev: x.below(30) - 1, Text: texts()[x.below(4)]}
	}
	return l
}

// mayPut tells by the chapter's words what Put answers.
func mayPut(l []api.Line, at int, more []api.Line) api.Errno {
	if at < 0 || at > len(l) {
		return api.ErrArg
	}
	for i, x := range more {
		same := func(y api.Line) bool { return y.Label == x.Label && y.N == x.N }
		if x.N < 1 || x.Rev < 0 || slices.ContainsFunc(l, same) || slices.ContainsFunc(more[:i], same) {
			return api.ErrDoc
		}
	}
	return api.OK
}

// step does something to a document, and tells what it must have then.
func step(t *testing.T, x *dice, d *doc.Doc, l []api.Line) []api.Line {
	t.Helper()
	if x.below(3) == 0 {
		at, more := x.below(len(l)+3)-1, x.thrown()
		want := mayPut(l, at, more)
		if e := d.Put(at, more...); e != want {
			t.Fatalf("Put(%d, %v) to %v: error %d, want %d", at, more, l, e, want)
		}
		if want != api.OK {
			return l
		}
		return with(l, at, more...)
	}
	a, n := labels()[x.below(4)], x.below(13)
	at := slices.IndexFunc(l, func(y api.Line) bool { return y.Label == a && y.N == n })
	want := api.OK
	if at < 0 {
		want = api.ErrNone
	}
	if x.below(2) == 0 {
		if e := d.Remove(a, n); e != want {
			t.Fatalf("Remove(%x, %d) of %v: error %d, want %d", a, n, l, e, want)
		}
		if at >= 0 {
			l = without(l, at)
		}
		return l
	}
	if e := d.Change(a, n, "new"); e != want {
		t.Fatalf("Change(%x, %d) of %v: error %d, want %d", a, n, l, e, want)
	}
	if at >= 0 {
		l = changed(l, at, "new")
	}
	return l
}

func TestWhateverIsDone(t *testing.T) {
	x := dice(1)
	longest := 0
	for run := range 40 {
		d := made(t)
		copied := d.Copy()
		var l, ofCopy []api.Line
		for i := range 150 {
			l = step(t, &x, d, l)
			holds(t, fmt.Sprintf("run %d, step %d", run, i), d, l)
			ofCopy = step(t, &x, copied, ofCopy)
			holds(t, fmt.Sprintf("run %d, step %d, the copy", run, i), copied, ofCopy)
			longest = max(longest, len(l))
			if i%40 == 39 { // From here on the copy is one of what there is now.
				copied, ofCopy = d.Copy(), l
			}
			onePlaceEach(t, d)
		}
	}
	if longest < 8 {
		t.Errorf("no document had more than %d lines", longest)
	}
}

// onePlaceEach tells a fault, unless no two lines have one identity, and each is found.
func onePlaceEach(t *testing.T, d *doc.Doc) {
	t.Helper()
	together := 0
	for _, a := range d.Labels() {
		together += d.Count(a)
	}
	if together != d.Len() {
		t.Fatalf("Len %d, all Counts together %d", d.Len(), together)
	}
	seen := map[api.Line]int{}
	for i, x := range d.All() {
		identity := api.Line{Label: x.Label, N: x.N}
		if other, twice := seen[identity]; twice {
			t.Fatalf("the lines %d and %d have one identity", other, i)
		}
		seen[identity] = i
		if at, e := d.Find(x.Label, x.N); at != i || e != api.OK {
			t.Fatalf("Find(%x, %d): %d, error %d, want %d", x.Label, x.N, at, e, i)
		}
	}
}

func TestEachDocumentHasOnePlaceEach(t *testing.T) {
	for _, l := range documents() {
		onePlaceEach(t, made(t, l...))
	}
}

// R1

func TestNilDocumentsHaveNothing(t *testing.T) {
	var d *doc.Doc
	if d.Lines() != nil || d.Len() != 0 || d.Count(none) != 0 || d.Count(all) != 0 || d.Labels() != nil || d.Print() != "" || d.Copy() != nil {
		t.Error("a nil document has something")
	}
	for range d.All() {
		t.Error("All of a nil document goes over something")
	}
	for _, n := range numbers() {
		if x, e := d.At(n); x != (api.Line{}) || e != api.ErrNil {
			t.Errorf("At(%d): %v, error %d", n, x, e)
		}
		if at, e := d.Find(set(3), n); at != 0 || e != api.ErrNil {
			t.Errorf("Find(%d): %d, error %d", n, at, e)
		}
		for _, l := range [][]api.Line{nil, {line(none, 1)}, {{}}, {{}, {}}} {
			if e := d.Put(n, l...); e != api.ErrNil {
				t.Errorf("Put(%d, %v): error %d", n, l, e)
			}
		}
		for _, text := range []string{"a", "", "a\nb"} {
			if e := d.Change(none, n, text); e != api.ErrNil {
				t.Errorf("Change(%d, %q): error %d", n, text, e)
			}
		}
		if e := d.Remove(none, n); e != api.ErrNil {
			t.Errorf("Remove(%d): error %d", n, e)
		}
	}
}

// callAll makes every call of a document.
func callAll(d *doc.Doc) {
	for _, n := range numbers() {
		d.At(n)
		d.Find(set(0), n)
		d.Change(set(0), n, "a")
		d.Put(n, line(set(0), 1), line(set(0), 2))
		d.Put(n, line(set(0), 3))
		d.Remove(set(0), n)
	}
	for range d.All() {
	}
	d.Put(0, line(set(0), 5), line(set(0), 4))
	d.Lines()
	d.Len()
	d.Count(set(0))
	d.Labels()
	d.Print()
	d.Copy()
}

func TestDocumentsMadeOtherwiseDoNotPanic(t *testing.T) {
	callAll(&doc.Doc{})
	callAll(new(doc.Doc).Copy())
	for count := range 6 {
		d := made(t, many(count)...)
		copied := *d
		callAll(&copied)
		callAll(d)
		again := *d
		for n := range 6 {
			d.Remove(set(0), n)
		}
		callAll(&again)
		d.Put(0, many(300)[100:]...)
		for _, x := range many(300) {
			again.Change(x.Label, x.N, "a")
			again.Remove(x.Label, x.N)
		}
		callAll(&again)
		callAll(d)
	}
}

// R2

func TestDocumentsDoNotSeeOneAnother(t *testing.T) {
	for name, l := range small() {
		d, other := made(t, l...), made(t, l...)
		doc.New([]api.Line{line(set(61), 1), {}})
		doc.Parse("61 1 0 a\n61 1 0 a\n")
		if len(l) > 0 {
			holds(t, name+", altered", d, altered(t, d, l, line(set(61), 1)))
		}
		holds(t, name+", the other one", other, l)
		holds(t, name+", a new one", made(t, l...), l)
	}
}

// R3

// writeAll writes over a list and over the room behind its end.
func writeAll[T any](l []T, with T) {
	l = l[:cap(l)]
	for i := range l {
		l[i] = with
	}
}

// roomy are the lines, and behind their end some more that the list has room for.
func roomy(l []api.Line) []api.Line {
	return slices.Concat(l, []api.Line{line(set(60), 1), {}, line(set(60), 1)})
}

func TestWhatIsHandedInIsNeitherChangedNorKept(t *testing.T) {
	written := api.Line{Label: set(59), N: 1, Text: "written"}
	for name, l := range documents() {
		room := roomy(l)
		given := slices.Clone(room)
		d := made(t, room[:len(l)]...)
		if !slices.Equal(room, given) {
			t.Fatalf("%s: New changes what is handed in", name)
		}
		writeAll(room, written)
		holds(t, name+", written into", d, l)
		if len(l) > 0 {
			room = roomy(l)
			d = made(t, room[:len(l)]...)
			altered(t, d, l, line(set(61), 1))
			done(t, d.Put(d.Len(), line(set(61), 2), line(set(61), 3)))
			if !slices.Equal(room, given) {
				t.Fatalf("%s: altering a document changes what was handed to New", name)
			}
		}
	}
}

func TestWhatIsPutIsNeitherChangedNorKept(t *testing.T) {
	written := api.Line{Label: set(59), N: 1, Text: "written"}
	more := []api.Line{line(set(61), 2), line(set(61), 1), line(set(61), 3)}
	for name, l := range small() {
		for at := range len(l) + 1 {
			for count := range len(more) + 1 {
				room := roomy(more[:count])
				given := slices.Clone(room)
				d := made(t, l...)
				done(t, d.Put(at, room[:count]...))
				want := with(l, at, more[:count]...)
				if !slices.Equal(room, given) {
					t.Fatalf("%s: Put changes what is handed in", name)
				}
				writeAll(room, written)
				holds(t, name+", written into what was put", d, want)
				room = slices.Clone(given)
				d = made(t, l...)
				done(t, d.Put(at, room[:count]...))
				if len(want) > 0 {
					altered(t, d, want, line(set(61), 4))
				}
				if !slices.Equal(room, given) {
					t.Fatalf("%s: altering a document changes what was put", name)
				}
			}
		}
	}
}

func TestWhatIsHandedOutIsNew(t *testing.T) {
	written := api.Line{Label: set(59), N: 1, Text: "written"}
	for name, l := range documents() {
		d := made(t, l...)
		first, second, firstLabels, secondLabels := d.Lines(), d.Lines(), d.Labels(), d.Labels()
		wantLabels := slices.Clone(secondLabels)
		c := d.Copy()
		writeAll(first, written)
		writeAll(firstLabels, set(59))
		holds(t, name+", written into what was handed out", d, l)
		holds(t, name+", the copy", c, l)
		if !slices.Equal(second, l) || !slices.Equal(secondLabels, wantLabels) {
			t.Fatalf("%s: two lists that are handed out share memory", name)
		}
		if len(l) == 0 {
			continue
		}
		want := altered(t, d, l, line(set(61), 1))
		if !slices.Equal(second, l) {
			t.Fatalf("%s: altering the document changes what was handed out", name)
		}
		writeAll(second, written)
		writeAll(d.Lines(), written) // The document has spare room now, or lines that are gone.
		done(t, d.Put(d.Len(), line(set(61), 2)))
		holds(t, name+", written into once more", d, with(want, len(want), line(set(61), 2)))
	}
}

// R6

func TestEmptyListsAreTheSame(t *testing.T) {
	holds(t, "nil", made(t), []api.Line{})
	for _, none := range [][]api.Line{nil, {}} {
		d, e := doc.New(none)
		if e != api.OK {
			t.Fatalf("New: error %d", e)
		}
		done(t, d.Put(0, none...))
		holds(t, "none put into none", d, nil)
		done(t, d.Put(0, line(all, 1)))
		done(t, d.Put(1, none...))
		holds(t, "none put behind one", d, []api.Line{line(all, 1)})
	}
}
