package lines_test

import (
	"math"
	"slices"
	"strings"
	"testing"

	"scrim/api"
	"scrim/lines"
)

const top = 1 << 62

// words goes over all texts of at most the given count of letters, the empty one too.
func words(letters string, most int, each func(string)) {
	each("")
	if most == 0 {
		return
	}
	for i := range len(letters) {
		words(letters, most-1, func(s string) { each(letters[i:i+1] + s) })
	}
}

// numbers are those around which a form could be wrong: around 0, the powers of 2 and of 10, and the ends.
func numbers() []int {
	l := []int{math.MinInt, math.MinInt + 1, math.MaxInt - 1, math.MaxInt}
	for n := -1100; n <= 1100; n++ {
		l = append(l, n)
	}
	for power := 1; power < top; power *= 2 {
		l = append(l, power-1, power, power+1, 1-power, -power, -power-1)
	}
	for power := 1; power <= 1e18; power *= 10 {
		for d := range 9 {
			n := power * (d + 1)
			l = append(l, n-1, n, n+1, 1-n, -n, -n-1)
		}
	}
	return append(l, top-1, top, top+1, -top)
}

func line(label api.Label, n, rev int, text string) api.Line {
	return api.Line{Label: label, N: n, Rev: rev, Text: text}
}

// P1.1

func TestCheckTellsWhetherALineMayBe(t *testing.T) {
	for _, x := range []struct {
		name string
		line api.Line
		want api.Errno
	}{
		{"the chapter's line", api.Line{Label: 0, N: 1, Rev: 0, Text: "x"}, api.OK},
		{"no text", api.Line{N: 1}, api.OK},
		{"any label", api.Line{Label: math.MaxUint64, N: 1}, api.OK},
		{"N 0", api.Line{N: 0, Text: "x"}, api.ErrLine},
		{"N below 0", api.Line{N: -1, Text: "x"}, api.ErrLine},
		{"the least N", api.Line{N: math.MinInt, Text: "x"}, api.ErrLine},
		{"N 2^62", api.Line{N: top}, api.OK},
		{"N one past it", api.Line{N: top + 1}, api.ErrLine},
		{"the greatest N", api.Line{N: math.MaxInt}, api.ErrLine},
		{"Rev 1", api.Line{N: 1, Rev: 1}, api.OK},
		{"Rev below 0", api.Line{N: 1, Rev: -1}, api.ErrLine},
		{"the least Rev", api.Line{N: 1, Rev: math.MinInt}, api.ErrLine},
		{"Rev 2^62", api.Line{N: 1, Rev: top}, api.OK},
		{"Rev one past it", api.Line{N: 1, Rev: top + 1}, api.ErrLine},
		{"the greatest Rev", api.Line{N: 1, Rev: math.MaxInt}, api.ErrLine},
		{"256 bytes", api.Line{N: 1, Text: strings.Repeat("x", 256)}, api.OK},
		{"257 bytes", api.Line{N: 1, Text: strings.Repeat("x", 257)}, api.ErrLine},
		{"a byte 0A", api.Line{N: 1, Text: "a\nb"}, api.ErrLine},
		{"no UTF-8", api.Line{N: 1, Text: "\xff\xc0\x80"}, api.OK},
		{"all at their ends", api.Line{Label: math.MaxUint64, N: top, Rev: top, Text: strings.Repeat("\x00", 256)}, api.OK},
	} {
		if got := lines.Check(x.line); got != x.want {
			t.Errorf("%s: Check answers %d, want %d", x.name, got, x.want)
		}
	}
}

func TestTextTellsWhetherATextMayBeALines(t *testing.T) {
	for _, x := range []struct {
		text string
		want bool
	}{
		{"", true},
		{"hi", true},
		{"\r\x00\t", true},
		{strings.Repeat("a", 255), true},
		{strings.Repeat("a", 256), true},
		{strings.Repeat("a", 257), false},
		{strings.Repeat("ä", 128), true},
		{strings.Repeat("ä", 129), false},
		{strings.Repeat("\xff", 256), true},
		{strings.Repeat("\xff", 257), false},
		{"\n", false},
		{"\na", false},
		{"a\n", false},
		{strings.Repeat("a", 255) + "\n", false},
		{"\xff\n\xff", false},
	} {
		if got := lines.Text(x.text); got != x.want {
			t.Errorf("Text(%q) is %v", x.text, got)
		}
	}
	for c := range 256 {
		s := "a" + string([]byte{byte(c)})
		if got := lines.Text(s); got != (c != '\n') {
			t.Errorf("Text(%q) is %v", s, got)
		}
	}
}

func TestNameTellsNames(t *testing.T) {
	const letters = "abcdefghijklmnopqrstuvwxyz0123456789-_"
	for c := range 256 {
		letter := string([]byte{byte(c)})
		want := strings.Contains(letters, letter)
		for _, s := range []string{letter, letter + "a", "a" + letter, "a" + letter + "b"} {
			if got := lines.Name(s); got != want {
				t.Errorf("Name(%q) is %v", s, got)
			}
		}
	}
	for _, x := range []struct {
		name string
		want bool
	}{
		{"a-1_z", true},
		{"A", false},
		{"", false},
		{strings.Repeat("n", 32), true},
		{strings.Repeat("n", 33), false},
		{strings.Repeat("-", 32), true},
		{strings.Repeat("n", 32) + "\n", false},
		{strings.Repeat("n", 31) + "A", false},
		{"ä", false},
		{"a b", false},
		{"\u0661", false},
		{"a\xff", false},
	} {
		if got := lines.Name(x.name); got != x.want {
			t.Errorf("Name(%q) is %v", x.name, got)
		}
	}
}

func TestTextsAreInOrder(t *testing.T) {
	if got := lines.Texts(nil); len(got) != 0 {
		t.Errorf("Texts of none: %q", got)
	}
	if got := lines.Texts([]api.Line{}); len(got) != 0 {
		t.Errorf("Texts of an empty list: %q", got)
	}
	l := []api.Line{line(1, 2, 3, "b"), {}, line(0, -1, 0, "a\nb"), line(1, 2, 3, "b"), line(0, 0, 0, "\xff")}
	if got := lines.Texts(l); !slices.Equal(got, []string{"b", "", "a\nb", "b", "\xff"}) {
		t.Errorf("Texts: %q", got)
	}
}

func TestSameHoldsLinesOneByOne(t *testing.T) {
	a, b := line(1, 2, 3, "a"), line(4, 5, 6, "\xff")
	var none []api.Line
	for _, x := range []struct {
		name string
		a, b []api.Line
		want bool
	}{
		{"nil and nil", nil, nil, true},
		{"nil and empty", none, []api.Line{}, true},
		{"empty and a line", none, []api.Line{{}}, false},
		{"the same", []api.Line{a, b}, []api.Line{a, b}, true},
		{"turned about", []api.Line{a, b}, []api.Line{b, a}, false},
		{"a beginning", []api.Line{a, b}, []api.Line{a}, false},
		{"once more", []api.Line{a, a}, []api.Line{a, a, a}, false},
		{"another label", []api.Line{b, a}, []api.Line{b, line(5, 2, 3, "a")}, false},
		{"another N", []api.Line{b, a}, []api.Line{b, line(1, 5, 3, "a")}, false},
		{"another Rev", []api.Line{b, a}, []api.Line{b, line(1, 2, 5, "a")}, false},
		{"another text", []api.Line{b, a}, []api.Line{b, line(1, 2, 3, "b")}, false},
		{"another first one", []api.Line{line(1, 2, 3, "b"), b}, []api.Line{a, b}, false},
		{"lines that may not be", []api.Line{line(0, -1, 0, "\n")}, []api.Line{line(0, -1, 0, "\n")}, true},
	} {
		if got := lines.Same(x.a, x.b); got != x.want {
			t.Errorf("%s: Same is %v", x.name, got)
		}
		if got := lines.Same(x.b, x.a); got != x.want {
			t.Errorf("%s, turned about: Same is %v", x.name, got)
		}
	}
}

// P1.2

func TestNumberIsTheForm(t *testing.T) {
	for _, x := range []struct {
		n    int
		want string
	}{
		{0, "0"},
		{1, "1"},
		{-1, "-1"},
		{-12, "-12"},
		{10, "10"},
		{-100, "-100"},
		{top, "4611686018427387904"},
		{math.MaxInt, "9223372036854775807"},
		{math.MinInt, "-9223372036854775808"},
	} {
		if got := lines.Number(x.n); got != x.want {
			t.Errorf("Number of %d: %q", x.n, got)
		}
	}
}

// noForms are texts with whose beginning no number's form stands.
var noForms = []string{
	"", "-", "--1", "-0", "-00", "00", "012", "-012", "-01", "+1", "+", " 1", "a", "_1", ":", "\n1", "-a", "-+1", "- 1",
	"9223372036854775808", "9223372036854775810", "9300000000000000000", "-9223372036854775809", "10000000000000000000",
	"18446744073709551616", "18446744073709551617", "-18446744073709551615", "99999999999999999999999", "\u0661", "\xff1", "\x001",
	"-9223372036854775818", "0" + strings.Repeat("1", 100), strings.Repeat("9", 1<<16), "00x", "01:ab", "-0:", "-:",
}

func TestReadRefusesOtherForms(t *testing.T) {
	behind := []string{"1 ", "1\n", "0x1", "1-", "12:ab", "1_000", "1e3", "1.0", "-1-1", "7\xff", "7\u0661", "9223372036854775807 "}
	for _, s := range append(behind, noForms...) {
		if n, e := lines.Read(s); n != 0 || e != api.ErrForm {
			t.Errorf("Read(%q): %d, error %d", s, n, e)
		}
	}
}

func TestReadReadsForms(t *testing.T) {
	for _, x := range []struct {
		text string
		want int
	}{
		{"0", 0},
		{"7", 7},
		{"-12", -12},
		{"1000", 1000},
		{"9223372036854775807", math.MaxInt},
		{"-9223372036854775807", math.MinInt + 1},
		{"-9223372036854775808", math.MinInt},
	} {
		if n, e := lines.Read(x.text); n != x.want || e != api.OK {
			t.Errorf("Read(%q): %d, error %d", x.text, n, e)
		}
	}
}

func TestTakeRefusesOtherForms(t *testing.T) {
	for _, s := range noForms {
		if n, rest, e := lines.Take(s); n != 0 || rest != "" || e != api.ErrForm {
			t.Errorf("Take(%q): %d, %q, error %d", s, n, rest, e)
		}
	}
}

func TestTakeTellsWhatStandsBehind(t *testing.T) {
	for _, x := range []struct {
		text string
		want int
		rest string
	}{
		{"12:ab", 12, ":ab"},
		{"0x1", 0, "x1"},
		{"0", 0, ""},
		{"0-1", 0, "-1"},
		{"0 0", 0, " 0"},
		{"-5-6", -5, "-6"},
		{"3\n4", 3, "\n4"},
		{"3\xff4", 3, "\xff4"},
		{"3\u0661", 3, "\u0661"},
		{"9223372036854775807x", math.MaxInt, "x"},
		{"-9223372036854775808:8", math.MinInt, ":8"},
	} {
		if n, rest, e := lines.Take(x.text); n != x.want || rest != x.rest || e != api.OK {
			t.Errorf("Take(%q): %d, %q, error %d", x.text, n, rest, e)
		}
	}
}

// P1.3

func TestShowIsTheCountedText(t *testing.T) {
	for _, x := range []struct{ text, want string }{
		{"hi", "2:hi"},
		{"", "0:"},
		{"ä", "2:ä"},
		{"\xff\n:", "3:\xff\n:"},
		{"2:hi", "4:2:hi"},
		{strings.Repeat("x", 1000), "1000:" + strings.Repeat("x", 1000)},
	} {
		if got := lines.Show(x.text); got != x.want {
			t.Errorf("Show(%q): %q", x.text, got)
		}
	}
}

func TestShownReadsACountedText(t *testing.T) {
	for _, x := range []struct{ text, want, rest string }{
		{"2:hi!", "hi", "!"},
		{"2:hi", "hi", ""},
		{"0:", "", ""},
		{"0:0:", "", "0:"},
		{"1:::", ":", ":"},
		{"1:\xff\xfe", "\xff", "\xfe"},
		{"1:ä", "\xc3", "\xa4"},
		{"2:\n\n\n", "\n\n", "\n"},
	} {
		if text, rest, e := lines.Shown(x.text); text != x.want || rest != x.rest || e != api.OK {
			t.Errorf("Shown(%q): %q, %q, error %d", x.text, text, rest, e)
		}
	}
}

func TestShownRefusesOtherForms(t *testing.T) {
	for _, s := range []string{
		"", ":", ":hi", "2", "2hi", "3:hi", "1:", "-1:", "-1:x", "-0:", "02:hi", "00:", "+2:hi", " 2:hi", "2 :hi", "2;hi", "hi", "\xff",
		"9223372036854775807:", "9223372036854775807:x", "-9223372036854775808:x", "9223372036854775808:x", "18446744073709551618:hi",
	} {
		if text, rest, e := lines.Shown(s); text != "" || rest != "" || e != api.ErrForm {
			t.Errorf("Shown(%q): %q, %q, error %d", s, text, rest, e)
		}
	}
}

// P1.4

func TestJoinedEndsEachText(t *testing.T) {
	for _, x := range []struct {
		texts []string
		want  string
	}{
		{nil, ""},
		{[]string{}, ""},
		{[]string{""}, "\n"},
		{[]string{"", ""}, "\n\n"},
		{[]string{"a"}, "a\n"},
		{[]string{"a", "", "b"}, "a\n\nb\n"},
		{[]string{"a\nb", "\xff"}, "a\nb\n\xff\n"},
	} {
		if got := lines.Joined(x.texts); got != x.want {
			t.Errorf("Joined(%q): %q", x.texts, got)
		}
	}
}

func TestCutTellsWhatStandsAhead(t *testing.T) {
	for _, x := range []struct {
		text string
		want []string
	}{
		{"", nil},
		{"\n", []string{""}},
		{"\n\n", []string{"", ""}},
		{"a\n", []string{"a"}},
		{"a\n\nb\n", []string{"a", "", "b"}},
		{"\na\r\n\xff\n", []string{"", "a\r", "\xff"}},
	} {
		if got, e := lines.Cut(x.text); !slices.Equal(got, x.want) || e != api.OK {
			t.Errorf("Cut(%q): %q, error %d", x.text, got, e)
		}
	}
	for _, s := range []string{"a", " ", "a\nb", "\na", "a\n\n ", "\x00", "\xff", "a\n\r"} {
		if got, e := lines.Cut(s); len(got) != 0 || e != api.ErrForm {
			t.Errorf("Cut(%q): %q, error %d", s, got, e)
		}
	}
}

// P1.5

func TestNumbersComeBack(t *testing.T) {
	for _, n := range numbers() {
		s := lines.Number(n)
		if back, e := lines.Read(s); back != n || e != api.OK {
			t.Errorf("Read(%q): %d, error %d", s, back, e)
		}
		for _, behind := range []string{" ", ":", "-", "x0", "\xff"} {
			if back, rest, e := lines.Take(s + behind); back != n || rest != behind || e != api.OK {
				t.Errorf("Take(%q): %d, %q, error %d", s+behind, back, rest, e)
			}
		}
	}
}

func TestWhatIsReadIsTheForm(t *testing.T) {
	read := 0
	words("0129-+ :x\xff", 5, func(s string) {
		n, e := lines.Read(s)
		if e == api.OK {
			read++
			if back := lines.Number(n); back != s {
				t.Errorf("Read(%q) is %d, of which Number is %q", s, n, back)
			}
		}
		taken, rest, e := lines.Take(s)
		if e == api.OK && lines.Number(taken)+rest != s {
			t.Errorf("Take(%q): %d, %q", s, taken, rest)
		}
		if e != api.OK && (taken != 0 || rest != "" || e != api.ErrForm) {
			t.Errorf("Take(%q): %d, %q, error %d", s, taken, rest, e)
		}
	})
	// One of 0; of each count of digits 3 that are not 0 first, 4 behind it; with a - ahead one digit fewer.
	want := 1
	for count, all := 1, 3; count <= 5; count, all = count+1, all*4 {
		want += all
		if count < 5 {
			want += all
		}
	}
	if read != want {
		t.Errorf("%d texts were read, want %d", read, want)
	}
}

func TestCountedTextsComeBack(t *testing.T) {
	texts := []string{strings.Repeat("x", 9), strings.Repeat(":", 10), strings.Repeat("\xff", 99), strings.Repeat("1:", 50), strings.Repeat("\n", 1<<16)}
	words("01:-\n\xff", 3, func(s string) { texts = append(texts, s) })
	for _, s := range texts {
		for _, behind := range []string{"", ":", "0:", "1", "\xff\n", "-"} {
			shown := lines.Show(s) + behind
			if text, rest, e := lines.Shown(shown); text != s || rest != behind || e != api.OK {
				t.Errorf("Shown(%q): %q, %q, error %d", shown, text, rest, e)
			}
		}
	}
}

func TestWhatIsShownIsWhatWasRead(t *testing.T) {
	read := 0
	words("012:-a\n", 5, func(s string) {
		text, rest, e := lines.Shown(s)
		if e == api.OK {
			read++
			if back := lines.Show(text) + rest; back != s {
				t.Errorf("Shown(%q): %q, %q, which shows %q", s, text, rest, back)
			}
		} else if text != "" || rest != "" || e != api.ErrForm {
			t.Errorf("Shown(%q): %q, %q, error %d", s, text, rest, e)
		}
	})
	// Each of the forms 0:, 1: and 2:, the bytes that it counts, and any up to 5 letters of 7.
	if want := (1 + 7 + 49 + 343) + (7 + 49 + 343) + (49 + 343); read != want {
		t.Errorf("%d texts were read, want %d", read, want)
	}
}

func TestJoinedTextsComeBack(t *testing.T) {
	for _, a := range []string{"", "a", "\xff", "\r", strings.Repeat("x", 300)} {
		for _, b := range []string{"", "b", " ", "\x00"} {
			for _, l := range [][]string{nil, {a}, {a, b}, {b, a}, {a, a, b}, {"", a, b, ""}} {
				if back, e := lines.Cut(lines.Joined(l)); !slices.Equal(back, l) || e != api.OK {
					t.Errorf("Cut of Joined(%q): %q, error %d", l, back, e)
				}
			}
		}
	}
	words("a\n\xff\r", 5, func(s string) {
		l, e := lines.Cut(s)
		if want := s == "" || strings.HasSuffix(s, "\n"); want != (e == api.OK) {
			t.Errorf("Cut(%q): error %d", s, e)
		}
		if e == api.OK && lines.Joined(l) != s {
			t.Errorf("Joined of Cut(%q): %q", s, lines.Joined(l))
		}
	})
}

// P1.6

func TestCountedTextsAreToldApart(t *testing.T) {
	var texts []string
	words("01:\n", 2, func(s string) { texts = append(texts, s) })
	texts = append(texts, "0:0:", "1:1", strings.Repeat("1", 10), strings.Repeat(":", 11))
	lists := [][]string{nil}
	for _, a := range texts {
		lists = append(lists, []string{a})
		for _, b := range texts {
			lists = append(lists, []string{a, b})
			for _, c := range texts {
				lists = append(lists, []string{a, b, c})
			}
		}
	}
	seen := map[string][]string{}
	for _, l := range lists {
		all := ""
		for _, s := range l {
			all += lines.Show(s)
		}
		if other, ok := seen[all]; ok {
			t.Errorf("%q and %q both show %q", other, l, all)
		}
		seen[all] = l
		if back := shownAll(t, all); !slices.Equal(back, l) {
			t.Errorf("%q is read as %q", l, back)
		}
	}
}

// shownAll reads counted texts that stand one behind the other.
func shownAll(t *testing.T, s string) []string {
	var l []string
	for s != "" {
		text, rest, e := lines.Shown(s)
		if e != api.OK {
			t.Fatalf("Shown(%q): error %d", s, e)
		}
		l, s = append(l, text), rest
	}
	return l
}

// R2 and R3

func TestListsAreNotSharedOrChanged(t *testing.T) {
	room := []api.Line{line(0, 1, 0, "a"), line(1, 1, 0, "b"), line(2, 1, 0, "c")}
	given := slices.Clone(room)
	texts := lines.Texts(room[:2])
	lines.Same(room[:2], room[1:])
	writeAll(texts)
	if !slices.Equal(room, given) {
		t.Errorf("the lines are changed: %v", room)
	}
	if again := lines.Texts(room[:2]); !slices.Equal(again, []string{"a", "b"}) {
		t.Errorf("Texts: %q", again)
	}

	long := []string{"a", "b", "c"}
	if s := lines.Joined(long[:2]); s != "a\nb\n" {
		t.Errorf("Joined: %q", s)
	}
	if !slices.Equal(long, []string{"a", "b", "c"}) {
		t.Errorf("the texts are changed: %q", long)
	}

	first, _ := lines.Cut("a\nb\n")
	second, _ := lines.Cut("a\nb\n")
	writeAll(first)
	if third, _ := lines.Cut("a\nb\n"); !slices.Equal(second, []string{"a", "b"}) || !slices.Equal(third, second) {
		t.Errorf("Cut: %q, %q", second, third)
	}
}

// writeAll writes over a list and over the room behind its end.
func writeAll(l []string) {
	l = l[:cap(l)]
	for i := range l {
		l[i] = "written"
	}
}
