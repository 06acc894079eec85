package policy_test

import (
	"fmt"
	"math"
	"slices"
	"strings"
	"testing"

	"scrim/api"
	"scrim/policy"
)

const (
	none = api.Label(0)
	all  = api.Label(math.MaxUint64)
)

// set is the label of compartments.
func set(compartments ...int) api.Label {
	a := none
	for _, c := range compartments {
		a |= 1 << c
	}
	return a
}

// below tells whether all of a is in b.
func below(a, b api.Label) bool { return a&b == a }

// by is the viewer of that name who is cleared for the compartments.
func by(name string, compartments ...int) api.Viewer {
	return api.Viewer{Name: name, Clearance: set(compartments...)}
}

// made is the policy with the viewers.
func made(t *testing.T, l ...api.Viewer) *policy.Policy {
	t.Helper()
	p, e := policy.New(l)
	if e != api.OK || p == nil {
		t.Fatalf("New(%v): %v, error %d", l, p, e)
	}
	return p
}

// many are viewers with names of three digits, rising, whose clearances repeat.
func many(count int) []api.Viewer {
	l := make([]api.Viewer, count)
	for i := range l {
		l[i] = by(fmt.Sprintf("%03d", i), i%7, i%64)
	}
	return l
}

// turned are the viewers from the last to the first.
func turned(l []api.Viewer) []api.Viewer {
	l = slices.Clone(l)
	slices.Reverse(l)
	return l
}

// shuffled are the viewers in an order that neither rises nor falls (as long as 29 divides not how many they are).
func shuffled(l []api.Viewer) []api.Viewer {
	m := make([]api.Viewer, len(l))
	for i := range l {
		m[i] = l[i*29%len(l)]
	}
	return m
}

// orders goes over the viewers in every order.
func orders(l []api.Viewer, each func([]api.Viewer)) {
	if len(l) == 0 {
		each(nil)
		return
	}
	for i, v := range l {
		rest := slices.Delete(slices.Clone(l), i, i+1)
		orders(rest, func(m []api.Viewer) { each(append([]api.Viewer{v}, m...)) })
	}
}

// groups are lists of viewers that a policy may have, each rising by name.
func groups() map[string][]api.Viewer {
	return map[string][]api.Viewer{
		"nobody":      {},
		"one":         {by("ann")},
		"one has all": {{Name: "ann", Clearance: all}},
		"the chapter": {by("ann"), by("bob", 3)},
		"one clearance": {
			by("a", 5), by("b", 5), by("c", 5),
		},
		"the ends": {
			{Name: "a", Clearance: all}, by("b"), by("c", 63), by("d", 0), {Name: "e", Clearance: all}, by("f", 0, 63), by("g"),
		},
		"beginnings": {
			by("-"), by("0", 2), by("9", 1), by("_", 1, 2), by("a", 2), by("a-", 1), by("a-b", 3), by("a0"), by("a_", 1), by("aa", 1, 2, 3), by("b", 1),
		},
		"the longest names": {
			by("x", 1), by(strings.Repeat("x", 31)+"w", 2), by(strings.Repeat("x", 32), 3), by(strings.Repeat("z", 32), 1, 2),
		},
		"a lattice": {
			by("v0"), by("v1", 1), by("v12", 1, 2), by("v123", 1, 2, 3), by("v13", 1, 3), by("v2", 2), by("v23", 2, 3), by("v3", 3),
		},
		"63 of them": many(63),
		"64 of them": many(64),
	}
}

// asked are labels of all kinds.
func asked() []api.Label {
	l := []api.Label{none, all, set(62), set(0, 63), set(3, 4), 0x5555555555555555, 0xaaaaaaaaaaaaaaaa}
	for c := range 7 {
		l = append(l, set(c), set(c, c+7), set(c, c+1), set(c, c+1, c+2), all&^set(c))
	}
	return append(l, set(63), set(1, 2, 3))
}

// names are the viewers' for whom is holds.
func names(l []api.Viewer, is func(api.Viewer) bool) []string {
	var m []string
	for _, v := range l {
		if is(v) {
			m = append(m, v.Name)
		}
	}
	return m
}

// P3.1

func TestNewIsThePolicyWithTheViewers(t *testing.T) {
	for name, l := range groups() {
		for order, given := range [][]api.Viewer{l, turned(l), shuffled(l)} {
			p := made(t, given...)
			if got := p.Viewers(); !slices.Equal(got, l) {
				t.Errorf("%s, order %d: Viewers %v", name, order, got)
			}
			for _, v := range l {
				if c, e := p.Clearance(v.Name); c != v.Clearance || e != api.OK {
					t.Errorf("%s, order %d: Clearance(%s): %x, error %d", name, order, v.Name, c, e)
				}
			}
		}
	}
	if got := made(t).Viewers(); len(got) != 0 {
		t.Errorf("Viewers of nobody: %v", got)
	}
}

func TestNewTakesViewersInEveryOrder(t *testing.T) {
	l := []api.Viewer{by("-", 9), by("a"), by("a_", 1), by("aa", 1), by("b", 0, 63)}
	orders(l, func(given []api.Viewer) {
		if got := made(t, given...).Viewers(); !slices.Equal(got, l) {
			t.Errorf("New(%v): Viewers %v", given, got)
		}
	})
}

func TestNewRefusesWhatIsNoPolicys(t *testing.T) {
	long := strings.Repeat("n", 33)
	for _, x := range []struct {
		name string
		l    []api.Viewer
	}{
		{"two of a name", []api.Viewer{by("bob", 1), by("bob", 1)}},
		{"two of a name, cleared for other things", []api.Viewer{by("bob", 1), by("bob", 2)}},
		{"two of a name, neither cleared for anything", []api.Viewer{by("bob"), by("bob")}},
		{"two of a name, others between", []api.Viewer{by("bob"), by("cy", 2), by("ann"), by("bob")}},
		{"the last of 64 has the first one's name", append(many(63), by("000"))},
		{"a great letter", []api.Viewer{by("Bob")}},
		{"no name", []api.Viewer{by("", 1)}},
		{"no name beside others", []api.Viewer{by("ann"), {}}},
		{"no name twice", []api.Viewer{{}, {}}},
		{"33 bytes", []api.Viewer{by(long)}},
		{"33 bytes beside others", []api.Viewer{by("ann"), by("bob"), by(long, 1)}},
		{"65 viewers", many(65)},
		{"65 viewers falling", turned(many(65))},
		{"many viewers", many(999)},
		{"65 times the same", slices.Repeat([]api.Viewer{by("ann")}, 65)},
		{"64 times the same", slices.Repeat([]api.Viewer{by("ann")}, 64)},
	} {
		if p, e := policy.New(x.l); p != nil || e != api.ErrPolicy {
			t.Errorf("%s: New answers %v, error %d", x.name, p, e)
		}
	}
}

func TestNewAsksEveryByteOfAName(t *testing.T) {
	const letters = "abcdefghijklmnopqrstuvwxyz0123456789-_"
	for c := range 256 {
		letter := string([]byte{byte(c)})
		for _, name := range []string{letter, "a" + letter, letter + "b", "a" + letter + "b"} {
			want := api.OK
			if !strings.Contains(letters, letter) {
				want = api.ErrPolicy
			}
			l := []api.Viewer{by("zz"), by(name, 1), by("--")}
			if p, e := policy.New(l); e != want || (p == nil) != (want != api.OK) {
				t.Errorf("New with the name %q: error %d", name, e)
			}
		}
	}
}

func TestClearanceOfNobody(t *testing.T) {
	unknown := []string{"", "eve", "an", "annn", "Ann", "ann ", " ann", "ann\n", "ann\x00", "bob 3", "\xff", strings.Repeat("a", 33), strings.Repeat("a", 1<<16)}
	for group, l := range groups() {
		p := made(t, l...)
		for _, name := range unknown {
			if c, e := p.Clearance(name); c != 0 || e != api.ErrNoViewer {
				t.Errorf("%s: Clearance(%q): %x, error %d", group, name, c, e)
			}
		}
	}
}

func TestClearancesAreToldOnceRising(t *testing.T) {
	for _, x := range []struct {
		name string
		l    []api.Viewer
		want []api.Label
	}{
		{"nobody", nil, nil},
		{"the chapter's", []api.Viewer{by("bob", 3), by("ann")}, []api.Label{none, set(3)}},
		{"by numbers, not by names", []api.Viewer{by("a", 9), by("b", 2), by("c", 5)}, []api.Label{set(2), set(5), set(9)}},
		{"not by how many there are", []api.Viewer{by("a", 0, 1, 2, 3), by("b", 63), by("c", 5)}, []api.Label{set(0, 1, 2, 3), set(5), set(63)}},
		{"the ends", []api.Viewer{{Name: "a", Clearance: all}, by("b"), by("c", 63), by("d", 0)}, []api.Label{none, set(0), set(63), all}},
		{"one clearance", []api.Viewer{by("a", 5), by("b", 5), by("c", 5)}, []api.Label{set(5)}},
		{"the empty one of all", []api.Viewer{by("a"), by("b"), by("c")}, []api.Label{none}},
		{"some shared, not side by side", []api.Viewer{by("a", 5), by("b", 1), by("c", 5), by("d"), by("e", 1), by("f")}, []api.Label{none, set(1), set(5)}},
	} {
		if got := made(t, x.l...).Clearances(); !slices.Equal(got, x.want) {
			t.Errorf("%s: Clearances %x", x.name, got)
		}
	}
	for name, l := range groups() {
		var want []api.Label
		for _, v := range l {
			want = append(want, v.Clearance)
		}
		slices.Sort(want)
		want = slices.Compact(want)
		if got := made(t, shuffled(l)...).Clearances(); !slices.Equal(got, want) {
			t.Errorf("%s: Clearances %x, want %x", name, got, want)
		}
	}
}

// P3.2

func TestTheChaptersViewers(t *testing.T) {
	p := made(t, by("bob", 3), by("ann"))
	for _, x := range []struct {
		label        api.Label
		below, above []string
		erased       []api.Viewer
	}{
		{none, []string{"ann"}, []string{"ann", "bob"}, []api.Viewer{by("ann")}},
		{set(3), []string{"ann", "bob"}, []string{"bob"}, []api.Viewer{by("ann"), by("bob", 3)}},
		{set(3, 4), []string{"ann", "bob"}, nil, []api.Viewer{by("ann"), by("bob", 3)}},
		{set(4), []string{"ann"}, nil, []api.Viewer{by("ann")}},
		{set(63), []string{"ann"}, nil, []api.Viewer{by("ann")}},
		{all, []string{"ann", "bob"}, nil, []api.Viewer{by("ann"), by("bob", 3)}},
	} {
		if got := p.Below(x.label); !slices.Equal(got, x.below) {
			t.Errorf("Below(%x): %v", x.label, got)
		}
		if got := p.Above(x.label); !slices.Equal(got, x.above) {
			t.Errorf("Above(%x): %v", x.label, got)
		}
		if got := p.Erase(x.label).Viewers(); !slices.Equal(got, x.erased) {
			t.Errorf("Erase(%x): %v", x.label, got)
		}
	}
}

func TestBelowAndAboveTellNamesRising(t *testing.T) {
	for group, l := range groups() {
		p := made(t, shuffled(l)...)
		for _, c := range asked() {
			want := names(l, func(v api.Viewer) bool { return below(v.Clearance, c) })
			if got := p.Below(c); !slices.Equal(got, want) {
				t.Errorf("%s: Below(%x): %v, want %v", group, c, got, want)
			}
			want = names(l, func(v api.Viewer) bool { return below(c, v.Clearance) })
			if got := p.Above(c); !slices.Equal(got, want) {
				t.Errorf("%s: Above(%x): %v, want %v", group, c, got, want)
			}
		}
	}
}

func TestEraseIsAPolicyOfItsOwn(t *testing.T) {
	for group, l := range groups() {
		p := made(t, turned(l)...)
		for _, c := range asked() {
			var left []api.Viewer
			for _, v := range l {
				if below(v.Clearance, c) {
					left = append(left, v)
				}
			}
			erased := p.Erase(c)
			if got, want := erased.Viewers(), left; !slices.Equal(got, want) {
				t.Errorf("%s: Erase(%x): %v, want %v", group, c, got, want)
			}
			for _, v := range l {
				clearance, e := erased.Clearance(v.Name)
				if below(v.Clearance, c) && (clearance != v.Clearance || e != api.OK) || !below(v.Clearance, c) && (clearance != 0 || e != api.ErrNoViewer) {
					t.Errorf("%s: Erase(%x): Clearance(%s): %x, error %d", group, c, v.Name, clearance, e)
				}
			}
			if got, want := erased.Above(none), p.Below(c); !slices.Equal(got, want) {
				t.Errorf("%s: Erase(%x): Above of the empty label: %v", group, c, got)
			}
		}
		if got := p.Viewers(); !slices.Equal(got, l) {
			t.Errorf("%s: Erase changed the policy: %v", group, got)
		}
	}
}

func TestEraseOfAllLeavesAPolicyWithoutViewers(t *testing.T) {
	p := made(t, by("ann", 1), by("bob", 2)).Erase(set(3))
	if p == nil || len(p.Viewers()) != 0 || p.Print() != "" {
		t.Errorf("Erase: %v", p)
	}
	if c, e := p.Clearance("ann"); c != 0 || e != api.ErrNoViewer {
		t.Errorf("Clearance: %x, error %d", c, e)
	}
}

// P3.3

func TestPrintIsTheText(t *testing.T) {
	full := "0"
	for c := 1; c < 64; c++ {
		full += fmt.Sprintf("+%d", c)
	}
	for _, x := range []struct {
		name string
		l    []api.Viewer
		want string
	}{
		{"nobody", nil, ""},
		{"the chapter's", []api.Viewer{by("bob", 3), by("ann")}, "ann -\nbob 3\n"},
		{"several compartments", []api.Viewer{by("-", 10, 9, 1), by("_", 63, 0)}, "- 1+9+10\n_ 0+63\n"},
		{"all compartments", []api.Viewer{{Name: "a-1_z", Clearance: all}}, "a-1_z " + full + "\n"},
		{"beginnings", []api.Viewer{by("ab"), by("a", 2), by("a-")}, "a 2\na- -\nab -\n"},
		{"the longest name", []api.Viewer{by(strings.Repeat("n", 32))}, strings.Repeat("n", 32) + " -\n"},
	} {
		if got := made(t, x.l...).Print(); got != x.want {
			t.Errorf("%s: Print %q", x.name, got)
		}
		p, e := policy.Parse(x.want)
		if e != api.OK || p == nil {
			t.Fatalf("%s: Parse answers %v, error %d", x.name, p, e)
		}
		if got, want := p.Viewers(), made(t, x.l...).Viewers(); !slices.Equal(got, want) {
			t.Errorf("%s: Parse: %v", x.name, got)
		}
	}
}

func TestParseRefusesOtherTexts(t *testing.T) {
	sixtyFive := ""
	for _, v := range many(65) {
		sixtyFive += v.Name + " -\n"
	}
	long := strings.Repeat("n", 33)
	for _, s := range []string{
		"bob 3\nann -\n",
		"ann -",
		"ann  -\n",
		"ann -\nann -\n",
		"ann -\nann 1\n",
		"ann -\nbob 3\nann -\n",
		"b -\na -\nc -\n", "a -\nc -\nb -\n", "aa -\na -\n", "a_ -\na- -\n",
		"ann -\nbob 3",
		"ann", "ann ", "ann\n", "ann \n", " -\n", " \n", "-\n", " ", "-", "\n", "\n\n",
		"ann -\n\n", "\nann -\n", "ann -\n\nbob 3\n",
		"ann -\n ", "ann -\n\x00", "ann -\nb", "ann -\nbob", "ann -\nbob 3\n-", "ann -\r\n", "ann - \n", " ann -\n", "ann\t-\n", "ann - -\n", "ann 3 3\n",
		"Ann -\n", "änn -\n", "an\xff -\n", "a.b -\n", "a+b -\n", "a\x00 -\n",
		long + " -\n", "ann -\n" + long + " 1\n",
		"ann 64\n", "ann 03\n", "ann -1\n", "ann +3\n", "ann 3+\n", "ann 3++4\n", "ann 4+3\n", "ann 3+3\n", "ann 3+-\n", "ann --\n", "ann -+3\n", "ann 3,4\n", "ann {3}\n", "ann a\n", "ann 99999999999999999999\n", "ann \u0663\n",
		sixtyFive, strings.Repeat("ann -\n", 65), strings.Repeat("\n", 1<<16), strings.Repeat("ann -\n", 1<<16), strings.Repeat("a", 1<<16), strings.Repeat("a", 1<<16) + " -\n", "a " + strings.Repeat("1+", 1<<16) + "2\n",
	} {
		if p, e := policy.Parse(s); p != nil || e != api.ErrForm {
			t.Errorf("Parse(%.80q): %v, error %d", s, p, e)
		}
	}
}

// rightTexts goes over the texts, of at most so many bytes, of policies whose viewers' names are of the letters a, 1 and -, and whose clearances are {}, {1} and {11}.
func rightTexts(text, last string, most int, each func(string)) {
	each(text)
	words("-1a", most-len(" -\n"), func(name string) {
		if name <= last {
			return
		}
		for _, clearance := range []string{"-", "1", "11"} {
			if line := name + " " + clearance + "\n"; len(line) <= most {
				rightTexts(text+line, name, most-len(line), each)
			}
		}
	})
}

// words goes over all texts of at most so many of the letters, the empty one too.
func words(letters string, most int, each func(string)) {
	if most < 0 {
		return
	}
	each("")
	for i := range len(letters) {
		words(letters, most-1, func(s string) { each(letters[i:i+1] + s) })
	}
}

func TestParseTakesJustTheTextsOfPolicies(t *testing.T) {
	right := map[string]bool{}
	rightTexts("", "", 8, func(s string) { right[s] = true })
	if len(right) < 100 || !right["- 1\na -\n"] || right["a -\n- 1\n"] {
		t.Fatalf("the %d right texts are wrong", len(right))
	}
	words("-1a \n", 8, func(s string) {
		p, e := policy.Parse(s)
		if (e == api.OK) != right[s] || (p != nil) != right[s] {
			t.Fatalf("Parse(%q): error %d", s, e)
		}
		if right[s] && p.Print() != s {
			t.Fatalf("Print of Parse(%q): %q", s, p.Print())
		}
	})
}

// P3.4

func TestPrintParseAndViewersLeadBack(t *testing.T) {
	for group, l := range groups() {
		p := made(t, shuffled(l)...)
		text := p.Print()
		read, e := policy.Parse(text)
		if e != api.OK {
			t.Fatalf("%s: Parse of Print: error %d", group, e)
		}
		if got := read.Viewers(); !slices.Equal(got, l) {
			t.Errorf("%s: Parse of Print: %v", group, got)
		}
		if got := read.Print(); got != text {
			t.Errorf("%s: Print of Parse: %q", group, got)
		}
		if got := made(t, p.Viewers()...).Print(); got != text {
			t.Errorf("%s: Print of New of Viewers: %q", group, got)
		}
		for _, v := range l {
			if c, e := read.Clearance(v.Name); c != v.Clearance || e != api.OK {
				t.Errorf("%s: Clearance(%s) of Parse of Print: %x, error %d", group, v.Name, c, e)
			}
		}
		if got, want := read.Clearances(), p.Clearances(); !slices.Equal(got, want) {
			t.Errorf("%s: Clearances of Parse of Print: %x", group, got)
		}
	}
}

// P3.5

func TestErasedTwiceIsErasedByWhatBothHave(t *testing.T) {
	for group, l := range groups() {
		p := made(t, l...)
		for _, c := range asked() {
			erased := p.Erase(c)
			for _, d := range asked() {
				twice, once := erased.Erase(d), p.Erase(c&d)
				if !slices.Equal(twice.Viewers(), once.Viewers()) || twice.Print() != once.Print() {
					t.Errorf("%s: erased by %x, then by %x: %v", group, c, d, twice.Viewers())
				}
			}
		}
	}
}

func TestEraseHasWhomBelowTells(t *testing.T) {
	for group, l := range groups() {
		p := made(t, l...)
		for _, c := range asked() {
			erased := p.Erase(c)
			everybody := names(erased.Viewers(), func(api.Viewer) bool { return true })
			if got := p.Below(c); !slices.Equal(got, everybody) {
				t.Errorf("%s: Below(%x): %v, Erase has %v", group, c, got, everybody)
			}
			for _, v := range erased.Viewers() {
				if clearance, e := p.Clearance(v.Name); clearance != v.Clearance || e != api.OK {
					t.Errorf("%s: Erase(%x) has %v, the policy %x, error %d", group, c, v, clearance, e)
				}
			}
		}
		for _, v := range l {
			if !slices.Contains(p.Below(v.Clearance), v.Name) || !slices.Contains(p.Above(v.Clearance), v.Name) {
				t.Errorf("%s: %s is not below and above its own clearance", group, v.Name)
			}
		}
	}
}

// P3.6

// within tells whether all of a is in b.
func within(a, b []string) bool {
	return !slices.ContainsFunc(a, func(name string) bool { return !slices.Contains(b, name) })
}

func TestWhoSeesWhom(t *testing.T) {
	for group, l := range groups() {
		p := made(t, l...)
		for _, a := range asked() {
			for _, v := range l {
				if slices.Contains(p.Above(a), v.Name) != below(a, v.Clearance) {
					t.Errorf("%s: Above(%x): %v", group, a, p.Above(a))
				}
			}
			for _, b := range asked() {
				if below(a, b) && (!within(p.Above(b), p.Above(a)) || !within(p.Below(a), p.Below(b))) {
					t.Errorf("%s: %x is below %x: Above %v, %v, Below %v, %v", group, a, b, p.Above(a), p.Above(b), p.Below(a), p.Below(b))
				}
			}
		}
	}
}

// R1

func TestANilPolicyHasNothing(t *testing.T) {
	var p *policy.Policy
	for _, name := range []string{"", "ann", "A", strings.Repeat("a", 33)} {
		if c, e := p.Clearance(name); c != 0 || e != api.ErrNil {
			t.Errorf("Clearance(%q): %x, error %d", name, c, e)
		}
	}
	if v, c := p.Viewers(), p.Clearances(); len(v) != 0 || len(c) != 0 {
		t.Errorf("Viewers %v, Clearances %v", v, c)
	}
	for _, c := range asked() {
		if b, a := p.Below(c), p.Above(c); len(b) != 0 || len(a) != 0 {
			t.Errorf("Below(%x) %v, Above %v", c, b, a)
		}
		if q := p.Erase(c); q != nil {
			t.Errorf("Erase(%x): %v", c, q)
		}
	}
	if s := p.Print(); s != "" {
		t.Errorf("Print: %q", s)
	}
}

func TestAPolicyMadeOtherwiseDoesNotPanic(t *testing.T) {
	p := &policy.Policy{}
	p.Clearance("ann")
	p.Viewers()
	p.Clearances()
	p.Below(all)
	p.Above(none)
	p.Erase(all).Viewers()
	p.Print()
}

// R2

func TestPoliciesDoNotSeeOneAnother(t *testing.T) {
	one := made(t, by("ann", 1), by("bob", 2))
	other := made(t, by("ann", 9), by("cy"))
	erased := one.Erase(set(1))
	if _, e := policy.New([]api.Viewer{by("eve"), by("eve")}); e != api.ErrPolicy {
		t.Errorf("New: error %d", e)
	}
	for _, x := range []struct {
		p    *policy.Policy
		want string
	}{{one, "ann 1\nbob 2\n"}, {other, "ann 9\ncy -\n"}, {erased, "ann 1\n"}} {
		if got := x.p.Print(); got != x.want {
			t.Errorf("Print: %q, want %q", got, x.want)
		}
	}
}

// R3

func TestWhatIsHandedInIsNotKept(t *testing.T) {
	given := []api.Viewer{by("cy", 3), by("ann"), by("bob", 1, 2), by("ann", 7)}
	room := slices.Clone(given)
	p := made(t, room[:3]...)
	if !slices.Equal(room, given) {
		t.Errorf("the viewers are changed: %v", room)
	}
	writeAll(room, by("eve", 9))
	if got := p.Print(); got != "ann -\nbob 1+2\ncy 3\n" {
		t.Errorf("Print: %q", got)
	}
	if c, e := p.Clearance("cy"); c != set(3) || e != api.OK {
		t.Errorf("Clearance: %x, error %d", c, e)
	}
	if c, e := p.Clearance("eve"); c != 0 || e != api.ErrNoViewer {
		t.Errorf("Clearance: %x, error %d", c, e)
	}
}

func TestWhatIsHandedOutIsNew(t *testing.T) {
	l := []api.Viewer{by("ann"), by("bob", 1, 2), by("cy", 3), by("dot", 3)}
	p := made(t, l...)
	erased := p.Erase(set(1, 2, 3))
	for range 2 {
		for _, q := range []*policy.Policy{p, erased} {
			viewers, clearances, lower, upper := q.Viewers(), q.Clearances(), q.Below(set(3)), q.Above(none)
			if !slices.Equal(viewers, l) || !slices.Equal(clearances, []api.Label{none, set(1, 2), set(3)}) {
				t.Errorf("Viewers %v, Clearances %x", viewers, clearances)
			}
			if !slices.Equal(lower, []string{"ann", "cy", "dot"}) || !slices.Equal(upper, []string{"ann", "bob", "cy", "dot"}) {
				t.Errorf("Below %v, Above %v", lower, upper)
			}
			if got := q.Print(); got != "ann -\nbob 1+2\ncy 3\ndot 3\n" {
				t.Errorf("Print: %q", got)
			}
			writeAll(viewers, by("eve", 9))
			writeAll(clearances, set(9))
			writeAll(lower, "eve")
			writeAll(upper, "eve")
		}
	}
}

// writeAll writes over a list and over the room behind its end.
func writeAll[T any](l []T, with T) {
	l = l[:cap(l)]
	for i := range l {
		l[i] = with
	}
}
