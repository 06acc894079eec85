package label_test

import (
	"iter"
	"math"
	"slices"
	"strconv"
	"strings"
	"testing"

	"scrim/api"
	"scrim/label"
)

const (
	none = api.Label(0)
	all  = api.Label(math.MaxUint64)
)

// set is the label of compartments that may be, made without the package.
func set(compartments ...int) api.Label {
	a := none
	for _, c := range compartments {
		a |= 1 << c
	}
	return a
}

// has tells whether a compartment is in a label.
func has(a api.Label, c int) bool { return a>>c&1 == 1 }

// spread are all labels of the given compartments; if these rise, so do the labels, as numbers.
func spread(compartments ...int) []api.Label {
	l := make([]api.Label, 1<<len(compartments))
	for i := range l {
		for bit, c := range compartments {
			if i>>bit&1 == 1 {
				l[i] |= 1 << c
			}
		}
	}
	return l
}

// sample are labels of all kinds: the empty one and the full one, single compartments, beginnings, ends and gaps, and mixed ones.
func sample() []api.Label {
	l := []api.Label{none, all, 0x5555555555555555, 0xaaaaaaaaaaaaaaaa, 0x00000000ffffffff, 0xffffffff00000000}
	for c := range 64 {
		l = append(l, 1<<c, all>>c, all<<c, all&^(1<<c))
	}
	mixed := api.Label(1)
	for range 100 {
		mixed = mixed*6364136223846793005 + 1442695040888963407
		l = append(l, mixed, mixed&(mixed<<7))
	}
	return l
}

// numbers are those from 0 to 63.
func numbers() []int {
	l := make([]int, 64)
	for i := range l {
		l[i] = i
	}
	return l
}

// words goes over all texts of at most the given count of letters, the empty one too.
func words(letters string, most int, each func(string)) {
	each("")
	if most == 0 {
		return
	}
	for i := range len(letters) {
		words(letters, most-1, func(s string) { each(letters[i:i+1] + s) })
	}
}

// P2.1

func TestOfIsTheSet(t *testing.T) {
	for _, x := range []struct {
		compartments []int
		want         api.Label
	}{
		{nil, 0},
		{[]int{}, 0},
		{[]int{0}, 1},
		{[]int{63}, 1 << 63},
		{[]int{3, 7, 3}, 1<<3 | 1<<7},
		{[]int{7, 3}, 1<<3 | 1<<7},
		{[]int{63, 0, 63, 0, 0}, 1<<63 | 1},
		{[]int{31, 32, 33}, 7 << 31},
		{numbers(), all},
		{append(numbers(), numbers()...), all},
	} {
		if got, e := label.Of(x.compartments...); got != x.want || e != api.OK {
			t.Errorf("Of(%v): %x, error %d", x.compartments, got, e)
		}
	}
	for c := range 64 {
		if got, e := label.Of(c, c); got != 1<<c || e != api.OK {
			t.Errorf("Of(%d, %[1]d): %x, error %d", c, got, e)
		}
	}
}

func TestOfRefusesOtherNumbers(t *testing.T) {
	for _, wrong := range []int{64, -1, 65, 127, 128, -63, -64, 1 << 32, 1<<32 + 3, -1 << 32, math.MaxInt, math.MinInt} {
		for _, compartments := range [][]int{{wrong}, {3, wrong}, {wrong, 3}, {0, wrong, 63}, {wrong, wrong}, append(numbers(), wrong)} {
			if got, e := label.Of(compartments...); got != 0 || e != api.ErrArg {
				t.Errorf("Of(%v): %x, error %d", compartments, got, e)
			}
		}
	}
}

func TestListTellsCompartmentsRising(t *testing.T) {
	for _, x := range []struct {
		label api.Label
		want  []int
	}{
		{0, nil},
		{1, []int{0}},
		{1 << 63, []int{63}},
		{1<<3 | 1<<7, []int{3, 7}},
		{1<<63 | 3<<31 | 1, []int{0, 31, 32, 63}},
		{all, numbers()},
	} {
		if got := label.List(x.label); !slices.Equal(got, x.want) {
			t.Errorf("List(%x): %v", x.label, got)
		}
		if got := label.Count(x.label); got != len(x.want) {
			t.Errorf("Count(%x): %d", x.label, got)
		}
	}
	for _, a := range sample() {
		var want []int
		for c := range 64 {
			if has(a, c) {
				want = append(want, c)
			}
		}
		if got := label.List(a); !slices.Equal(got, want) {
			t.Errorf("List(%x): %v", a, got)
		}
		if got := label.Count(a); got != len(want) {
			t.Errorf("Count(%x): %d", a, got)
		}
	}
}

func TestTwoLabelsAreHeldTogether(t *testing.T) {
	for _, a := range sample() {
		for _, b := range sample() {
			below := true
			for c := range 64 {
				in, other := has(a, c), has(b, c)
				below = below && (other || !in)
				if has(label.Join(a, b), c) != (in || other) {
					t.Fatalf("Join(%x, %x): %x", a, b, label.Join(a, b))
				}
				if has(label.Meet(a, b), c) != (in && other) {
					t.Fatalf("Meet(%x, %x): %x", a, b, label.Meet(a, b))
				}
				if has(label.Less(a, b), c) != (in && !other) {
					t.Fatalf("Less(%x, %x): %x", a, b, label.Less(a, b))
				}
			}
			if label.Below(a, b) != below {
				t.Fatalf("Below(%x, %x) is %v", a, b, !below)
			}
		}
	}
}

func TestTheChaptersPairs(t *testing.T) {
	if !label.Below(set(3), set(3, 7)) || label.Below(set(3, 7), set(3)) || !label.Below(none, set(0)) || label.Below(set(0), none) {
		t.Error("Below")
	}
	if !label.Below(none, none) || !label.Below(all, all) || !label.Below(none, all) || label.Below(all, none) || label.Below(set(63), set(62)) {
		t.Error("Below at the ends")
	}
	if got := label.Less(set(3, 7), set(7, 9)); got != set(3) {
		t.Errorf("Less: %x", got)
	}
	if got := label.Join(set(3, 7), set(7, 63)); got != set(3, 7, 63) {
		t.Errorf("Join: %x", got)
	}
	if got := label.Meet(set(3, 7, 63), set(7, 9, 63)); got != set(7, 63) {
		t.Errorf("Meet: %x", got)
	}
}

// P2.2

func TestHighestAreBelowNoOtherOne(t *testing.T) {
	for _, x := range []struct {
		name    string
		l, want []api.Label
	}{
		{"nil", nil, nil},
		{"empty", []api.Label{}, nil},
		{"the chapter's", []api.Label{set(1), set(1, 2), set(3), set(1, 2)}, []api.Label{set(1, 2), set(3)}},
		{"the empty label", []api.Label{none}, []api.Label{none}},
		{"the empty label twice", []api.Label{none, none}, []api.Label{none}},
		{"the empty label and another one", []api.Label{none, set(0), none}, []api.Label{set(0)}},
		{"the full label last", []api.Label{set(5), set(63), set(0), all}, []api.Label{all}},
		{"the full label first", []api.Label{all, set(5), none, all}, []api.Label{all}},
		{"none below another one", []api.Label{set(9), set(2), set(5), set(2)}, []api.Label{set(9), set(2), set(5)}},
		{"one goes, its place too", []api.Label{set(2), set(5), set(2, 3), set(5)}, []api.Label{set(5), set(2, 3)}},
		{"one covers several", []api.Label{set(1), set(7), set(2), set(1, 2), set(7)}, []api.Label{set(7), set(1, 2)}},
		{"the greatest number is not the highest", []api.Label{set(63), set(0, 1), set(1)}, []api.Label{set(63), set(0, 1)}},
	} {
		if got := label.Highest(x.l); !slices.Equal(got, x.want) {
			t.Errorf("%s: Highest is %x", x.name, got)
		}
	}
}

// highestByWords does what the chapter's words say, one by one.
func highestByWords(l []api.Label) []api.Label {
	var highest []api.Label
	for i, a := range l {
		first := slices.Index(l, a) == i
		covered := slices.ContainsFunc(l, func(b api.Label) bool { return b != a && a&b == a })
		if first && !covered {
			highest = append(highest, a)
		}
	}
	return highest
}

// lists goes over all lists of at most the given count of labels, the empty one too.
func lists(labels []api.Label, most int, each func([]api.Label)) {
	each(nil)
	if most == 0 {
		return
	}
	for _, a := range labels {
		lists(labels, most-1, func(l []api.Label) { each(append([]api.Label{a}, l...)) })
	}
}

func TestHighestOfAllShortLists(t *testing.T) {
	lists(spread(0, 17, 63), 5, func(l []api.Label) {
		if got, want := label.Highest(l), highestByWords(l); !slices.Equal(got, want) {
			t.Errorf("Highest(%x): %x, want %x", l, got, want)
		}
	})
	for _, l := range [][]api.Label{sample(), spread(1, 2, 3, 40, 41), append(sample(), sample()...)} {
		if got, want := label.Highest(l), highestByWords(l); !slices.Equal(got, want) {
			t.Errorf("Highest(%x): %x, want %x", l, got, want)
		}
	}
	var pairs []api.Label
	for c := range 63 {
		for d := c + 1; d < 64; d++ {
			pairs = append(pairs, set(d), set(c, d), set(c))
		}
	}
	if got, want := label.Highest(pairs), highestByWords(pairs); len(got) != 64*63/2 || !slices.Equal(got, want) {
		t.Errorf("Highest of all pairs are %d", len(got))
	}
}

func fullText() string {
	var l []string
	for _, c := range numbers() {
		l = append(l, strconv.Itoa(c))
	}
	return strings.Join(l, "+")
}

func TestTextAndParse(t *testing.T) {
	for _, x := range []struct {
		label api.Label
		text  string
	}{
		{none, "-"},
		{set(0), "0"},
		{set(9), "9"},
		{set(10), "10"},
		{set(63), "63"},
		{set(3, 7), "3+7"},
		{set(9, 10), "9+10"},
		{set(0, 1, 31, 32, 62, 63), "0+1+31+32+62+63"},
		{all, fullText()},
	} {
		if got := label.Text(x.label); got != x.text {
			t.Errorf("Text(%x): %q", x.label, got)
		}
		if got, e := label.Parse(x.text); got != x.label || e != api.OK {
			t.Errorf("Parse(%q): %x, error %d", x.text, got, e)
		}
	}
}

func TestParseRefusesOtherForms(t *testing.T) {
	for _, s := range []string{
		"7+3", "", "03", "3+", "3+3", // the chapter's
		"00", "007", "0+01", "00+1", "3+07", // noughts ahead
		"1+0", "63+0", "10+9", "0+0", "63+63", "1+2+1", "1+3+2", // falling, or twice
		"3 ", "3\n", "- ", "-\n", "--", "-+", "-+3", "3+-", "3-", "3+7 ", "3+7+", "3\x00", "3+7\xff", "3x", fullText() + "+", fullText() + "+64", // behind the end
		"64", "3+64", "65", "99", "100", "630", "-1", "-0", "-3", "3+-7", "18446744073709551616", "18446744073709551619", "4294967299", strings.Repeat("9", 1<<12),
		"+", "++", "+3", "++3", "3++7", " 3", "3 +7", "3+ 7", "3,7", "{3}", "a", "0x3", "3_0", "1e1", "3.0", "\u0663", "\u2212", "\xff", ":", "\n", "\x00",
		"3+" + strings.Repeat("0", 1<<12) + "7", strings.Repeat("+", 1<<12), strings.Repeat("1+", 1<<12) + "1",
	} {
		if got, e := label.Parse(s); got != 0 || e != api.ErrForm {
			t.Errorf("Parse(%q): %x, error %d", s, got, e)
		}
	}
}

// P2.3

// between are the labels that Between goes over.
func between(t *testing.T, a, b api.Label) []api.Label {
	t.Helper()
	return slices.Collect(round(t, a, b))
}

// round is what Between tells, if it tells no error.
func round(t *testing.T, a, b api.Label) iter.Seq[api.Label] {
	t.Helper()
	each, e := label.Between(a, b)
	if each == nil || e != api.OK {
		t.Fatalf("Between(%x, %x): error %d", a, b, e)
	}
	return each
}

func TestBetweenGoesOverTheLabelsRising(t *testing.T) {
	for _, x := range []struct {
		name string
		a, b api.Label
		want []api.Label
	}{
		{"the chapter's", set(1), set(1, 2, 5), []api.Label{set(1), set(1, 2), set(1, 5), set(1, 2, 5)}},
		{"the chapter's, a not below b", set(1), set(2), nil},
		{"b below a", set(1, 2), set(1), nil},
		{"nothing is below the empty one", set(0), none, nil},
		{"the full one is below no other one", all, all &^ set(63), nil},
		{"the full one over the empty one", all, none, nil},
		{"both empty", none, none, []api.Label{none}},
		{"the same", set(4, 63), set(4, 63), []api.Label{set(4, 63)}},
		{"both full", all, all, []api.Label{all}},
		{"all but the ends", all &^ set(0, 63), all, []api.Label{all &^ set(0, 63), all &^ set(63), all &^ set(0), all}},
		{"from the empty one", none, set(0, 63), []api.Label{none, set(0), set(63), set(0, 63)}},
		{"a's ones above and below", set(0, 30, 60), set(0, 10, 30, 50, 60), []api.Label{
			set(0, 30, 60), set(0, 10, 30, 60), set(0, 30, 50, 60), set(0, 10, 30, 50, 60)}},
	} {
		if got := between(t, x.a, x.b); !slices.Equal(got, x.want) {
			t.Errorf("%s: Between goes over %x", x.name, got)
		}
	}
}

func TestBetweenAllPairs(t *testing.T) {
	for _, labels := range [][]api.Label{spread(0, 1, 2, 3, 4), spread(0, 31, 32, 62, 63), spread(5, 6, 20, 40, 63)} {
		for _, a := range labels {
			for _, b := range labels {
				var want []api.Label
				for _, c := range labels {
					if a&c == a && c&b == c {
						want = append(want, c)
					}
				}
				if got := between(t, a, b); !slices.Equal(got, want) {
					t.Fatalf("Between(%x, %x) goes over %x, want %x", a, b, got, want)
				}
			}
		}
	}
}

func TestBetweenTakesMaxBetween(t *testing.T) {
	if label.MaxBetween != 16 {
		t.Errorf("MaxBetween is %d", label.MaxBetween)
	}
	for _, x := range []struct {
		name string
		a, b api.Label
	}{
		{"the lowest", none, 0xffff},
		{"the highest", none, 0xffff << 48},
		{"every fourth", none, 0x1111111111111111},
		{"with a full besides", all &^ 0xffff0000, all},
		{"with some in both", 0x0f0f, 0x0f0f | 0xff000000ff<<20},
	} {
		got := between(t, x.a, x.b)
		if len(got) != 1<<16 || got[0] != x.a || got[len(got)-1] != x.b || !slices.IsSorted(got) {
			t.Errorf("%s: Between goes over %d labels", x.name, len(got))
		}
	}
}

func TestBetweenRefusesMore(t *testing.T) {
	for _, x := range []struct {
		name string
		a, b api.Label
	}{
		{"the lowest", none, 0x1ffff},
		{"the highest", none, 0x1ffff << 47},
		{"all", none, all},
		{"all but some", set(0, 63), all},
		{"one more than a full besides", all &^ 0x1ffff, all},
		{"a not below b", set(63), 0x1ffff},
	} {
		if each, e := label.Between(x.a, x.b); each != nil || e != api.ErrArg {
			t.Errorf("%s: error %d", x.name, e)
		}
	}
	// What a has beside b does not count, however much it is.
	for _, a := range []api.Label{set(63), all &^ 0xffff} {
		if got := between(t, a, 0xffff); len(got) != 0 {
			t.Errorf("Between(%x, ffff) goes over %d labels", a, len(got))
		}
	}
}

// R8

func TestBetweenIsGoneOverTwice(t *testing.T) {
	want := spread(1, 2, 63)
	each := round(t, none, set(1, 2, 63))
	for range 3 {
		if got := slices.Collect(each); !slices.Equal(got, want) {
			t.Errorf("a round goes over %x", got)
		}
	}
}

func TestBetweenIsGoneOverByTwoRoundsAtATime(t *testing.T) {
	want := spread(1, 2, 63)
	each := round(t, none, set(1, 2, 63))
	var outer []api.Label
	for a := range each {
		outer = append(outer, a)
		if inner := slices.Collect(each); !slices.Equal(inner, want) {
			t.Errorf("the inner round at %x goes over %x", a, inner)
		}
	}
	if !slices.Equal(outer, want) {
		t.Errorf("the outer round goes over %x", outer)
	}

	first, stopFirst := iter.Pull(each)
	second, stopSecond := iter.Pull(each)
	defer stopFirst()
	defer stopSecond()
	first()
	for i := range want {
		a, _ := second()
		b, more := first()
		if a != want[i] || more != (i+1 < len(want)) || more && b != want[i+1] {
			t.Errorf("step %d of two rounds: %x, %x", i, b, a)
		}
	}
}

func TestBetweenIsLeftInTheMiddle(t *testing.T) {
	want := spread(1, 2, 63)
	each := round(t, none, set(1, 2, 63))
	for most := 1; most <= len(want); most++ {
		var got []api.Label
		each(func(a api.Label) bool {
			got = append(got, a)
			return len(got) < most
		})
		if !slices.Equal(got, want[:most]) {
			t.Errorf("left behind %d: %x", most, got)
		}
		if got := slices.Collect(each); !slices.Equal(got, want) {
			t.Errorf("a round behind one left at %d goes over %x", most, got)
		}
	}
}

// P2.4

func TestBelowIsAnOrder(t *testing.T) {
	labels := spread(0, 31, 32, 63)
	for _, a := range append(sample(), labels...) {
		if !label.Below(a, a) || !label.Below(none, a) || !label.Below(a, all) {
			t.Errorf("%x is not below itself, or not between the ends", a)
		}
	}
	for _, a := range labels {
		for _, b := range labels {
			if label.Below(a, b) && label.Below(b, a) && a != b {
				t.Errorf("%x and %x are below one another", a, b)
			}
			for _, c := range labels {
				if label.Below(a, b) && label.Below(b, c) && !label.Below(a, c) {
					t.Errorf("%x is below %x, that below %x", a, b, c)
				}
			}
		}
	}
}

func TestJoinIsLeastAndMeetIsGreatest(t *testing.T) {
	labels := spread(0, 31, 32, 63)
	for _, a := range labels {
		for _, b := range labels {
			join, meet := label.Join(a, b), label.Meet(a, b)
			if !label.Below(a, join) || !label.Below(b, join) {
				t.Errorf("%x and %x are not below their Join %x", a, b, join)
			}
			if !label.Below(meet, a) || !label.Below(meet, b) {
				t.Errorf("the Meet %x is not below %x and %x", meet, a, b)
			}
			for _, c := range labels {
				if label.Below(a, c) && label.Below(b, c) && !label.Below(join, c) {
					t.Errorf("%x and %x are below %x, their Join %x is not", a, b, c, join)
				}
				if label.Below(c, a) && label.Below(c, b) && !label.Below(c, meet) {
					t.Errorf("%x is below %x and %x, and not below their Meet %x", c, a, b, meet)
				}
			}
		}
	}
}

func TestJoinAndMeetAreSharedOut(t *testing.T) {
	check := func(a, b, c api.Label) {
		if label.Join(a, label.Meet(b, c)) != label.Meet(label.Join(a, b), label.Join(a, c)) {
			t.Errorf("Join over Meet: %x, %x, %x", a, b, c)
		}
		if label.Meet(a, label.Join(b, c)) != label.Join(label.Meet(a, b), label.Meet(a, c)) {
			t.Errorf("Meet over Join: %x, %x, %x", a, b, c)
		}
	}
	labels := spread(0, 31, 32, 63)
	mixed := sample()
	for i, a := range labels {
		for _, b := range labels {
			for _, c := range labels {
				check(a, b, c)
			}
		}
		for j, b := range mixed {
			check(mixed[len(mixed)-1-i], b, mixed[(j*7+i)%len(mixed)])
		}
	}
}

// P2.5

func TestLabelsComeBack(t *testing.T) {
	labels := sample()
	for a := range api.Label(1 << 11) {
		labels = append(labels, a, a<<26, a<<53)
	}
	for c := range 64 {
		for d := range 64 {
			labels = append(labels, set(c, d), all&^set(c, d))
		}
	}
	for _, a := range labels {
		text := label.Text(a)
		if back, e := label.Parse(text); back != a || e != api.OK {
			t.Errorf("Parse(%q): %x, want %x, error %d", text, back, a, e)
		}
		l := label.List(a)
		if back, e := label.Of(l...); back != a || e != api.OK {
			t.Errorf("Of(%v): %x, want %x, error %d", l, back, a, e)
		}
		slices.Reverse(l)
		if back, e := label.Of(l...); back != a || e != api.OK {
			t.Errorf("Of(%v): %x, want %x, error %d", l, back, a, e)
		}
	}
}

func TestWhatIsParsedIsTheText(t *testing.T) {
	want := map[string]api.Label{}
	for _, a := range spread(0, 1, 3, 6, 10, 11, 13, 16, 30, 31, 33, 36, 60, 61, 63) {
		want[label.Text(a)] = a
	}
	words("0136+- ", 6, func(s string) {
		a, e := label.Parse(s)
		wanted, is := want[s]
		if is != (e == api.OK) || a != wanted || !is && e != api.ErrForm {
			t.Errorf("Parse(%q): %x, error %d", s, a, e)
		}
		if e == api.OK && label.Text(a) != s {
			t.Errorf("Text of Parse(%q): %q", s, label.Text(a))
		}
	})
}

func TestHighestCoverTheList(t *testing.T) {
	check := func(l []api.Label) {
		highest := label.Highest(l)
		for _, a := range l {
			if !slices.ContainsFunc(highest, func(h api.Label) bool { return label.Below(a, h) }) {
				t.Errorf("%x of %x is below none of %x", a, l, highest)
			}
		}
		for i, a := range highest {
			for j, b := range highest {
				if i != j && label.Below(a, b) {
					t.Errorf("Highest(%x) are %x", l, highest)
				}
			}
			if !slices.Contains(l, a) {
				t.Errorf("%x is not of %x", a, l)
			}
		}
	}
	lists(spread(0, 31, 63), 4, check)
	check(sample())
	check(append(spread(0, 2, 4, 6, 62), spread(1, 2, 3, 63)...))
}

// P2.6

func TestBetweenCountsEachOnce(t *testing.T) {
	for _, x := range [][2]api.Label{
		{none, none}, {none, 0xffff}, {set(40), set(40) | 0xff}, {all &^ 0x3ff, all}, {set(0, 2, 4), 0x5555}, {set(63), 0x3fff << 50},
		{all, all}, {set(1), set(2)}, {all, none}, {0xffff0000, 0xffff},
	} {
		a, b := x[0], x[1]
		want := 0
		if label.Below(a, b) {
			want = 1 << label.Count(label.Less(b, a))
		}
		seen := map[api.Label]bool{}
		last := a
		for c := range round(t, a, b) {
			if seen[c] || !label.Below(a, c) || !label.Below(c, b) {
				t.Fatalf("Between(%x, %x) goes over %x", a, b, c)
			}
			if !label.Below(last, label.Join(last, c)) || last > c {
				t.Fatalf("Between(%x, %x) goes from %x to %x", a, b, last, c)
			}
			seen[c], last = true, c
		}
		if len(seen) != want {
			t.Errorf("Between(%x, %x) goes over %d labels, want %d", a, b, len(seen), want)
		}
	}
}

// R2 and R3

func TestListsAreNotSharedOrChanged(t *testing.T) {
	room := []api.Label{set(1), set(2), set(1, 2), all}
	given := slices.Clone(room)
	first := label.Highest(room[:2])
	second := label.Highest(room[:2])
	writeAll(first, 77)
	if want := given[:2]; !slices.Equal(second, want) || !slices.Equal(label.Highest(room[:2]), want) {
		t.Errorf("Highest: %x", second)
	}
	if got := label.Highest(room[:3]); !slices.Equal(got, []api.Label{set(1, 2)}) {
		t.Errorf("Highest: %x", got)
	}
	if !slices.Equal(room, given) {
		t.Errorf("the labels are changed: %x", room)
	}

	numbers := []int{7, 3, 3, 64}
	if a, e := label.Of(numbers[:3]...); a != set(3, 7) || e != api.OK {
		t.Errorf("Of: %x, error %d", a, e)
	}
	if !slices.Equal(numbers, []int{7, 3, 3, 64}) {
		t.Errorf("the numbers are changed: %v", numbers)
	}

	one, other := label.List(set(3, 7, 9)), label.List(set(3, 7, 9))
	writeAll(one, 77)
	if third := label.List(set(3, 7, 9)); !slices.Equal(other, []int{3, 7, 9}) || !slices.Equal(third, other) {
		t.Errorf("List: %v, %v", other, third)
	}
}

// writeAll writes over a list and over the room behind its end.
func writeAll[T any](l []T, with T) {
	l = l[:cap(l)]
	for i := range l {
		l[i] = with
	}
}
