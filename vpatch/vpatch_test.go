package vpatch_test

import (
	"fmt"
	"math"
	"slices"
	"strconv"
	"strings"
	"testing"

	"scrim/api"
	"scrim/vpatch"
)

// greatest is the greatest place of a hunk that may be.
const greatest = 1<<31 - 1

// long is a text of so many bytes.
func long(count int) string { return strings.Repeat("x", count) }

// of are the texts that words with blanks between them are.
func of(words string) []string { return strings.Fields(words) }

// at is a hunk with the texts that words are.
func at(place int, old, new string) api.Hunk {
	return api.Hunk{At: place, Old: of(old), New: of(new)}
}

// text is one of these lines, each with 0A behind it.
func text(lines ...string) string {
	var s string
	for _, line := range lines {
		s += line + "\x0a"
	}
	return s
}

// lineCount is how many lines a text has that have 0A behind them.
func lineCount(s string) int { return strings.Count(s, "\x0a") }

// numbered are so many texts that stand in no other list here.
func numbered(name string, count int) []string {
	l := make([]string, count)
	for i := range l {
		l[i] = name + strconv.Itoa(i)
	}
	return l
}

// many are so many hunks that each change one text to two, with one text between two of them.
func many(count int) []api.Hunk {
	p := make([]api.Hunk, count)
	for i := range p {
		p[i] = at(2*i, "t"+strconv.Itoa(2*i), "u v")
	}
	return p
}

// worded is a patch's text by the words.
func worded(p []api.Hunk) string {
	var b strings.Builder
	fmt.Fprintf(&b, "patch %d\x0a", len(p))
	for _, h := range p {
		fmt.Fprintf(&b, "@ %d %d %d\x0a", h.At, len(h.Old), len(h.New))
		for _, s := range h.Old {
			fmt.Fprintf(&b, "-%s\x0a", s)
		}
		for _, s := range h.New {
			fmt.Fprintf(&b, "+%s\x0a", s)
		}
	}
	return b.String()
}

// anyBytes are texts that have, together, each byte but 0A.
func anyBytes() []string {
	var ahead, behind []byte
	for i := range 256 {
		switch {
		case i < 0x0a:
			ahead = append(ahead, byte(i))
		case i > 0x0a:
			behind = append(behind, byte(i))
		}
	}
	return []string{string(ahead), string(behind)}
}

// spelt are patches with their texts, as they are written out.
func spelt() map[string]struct {
	p []api.Hunk
	s string
} {
	type pair = struct {
		p []api.Hunk
		s string
	}
	return map[string]pair{
		"no hunks":                       {nil, "patch 0\n"},
		"an empty list":                  {[]api.Hunk{}, "patch 0\n"},
		"a text added":                   {[]api.Hunk{at(0, "", "p")}, "patch 1\n@ 0 0 1\n+p\n"},
		"a text removed":                 {[]api.Hunk{at(0, "a", "")}, "patch 1\n@ 0 1 0\n-a\n"},
		"a text changed":                 {[]api.Hunk{at(1, "b", "B")}, "patch 1\n@ 1 1 1\n-b\n+B\n"},
		"a text changed to the same":     {[]api.Hunk{at(7, "b", "b")}, "patch 1\n@ 7 1 1\n-b\n+b\n"},
		"some added":                     {[]api.Hunk{at(3, "", "p q r")}, "patch 1\n@ 3 0 3\n+p\n+q\n+r\n"},
		"some removed":                   {[]api.Hunk{at(3, "a b c", "")}, "patch 1\n@ 3 3 0\n-a\n-b\n-c\n"},
		"more added":                     {[]api.Hunk{at(12, "a", "x y")}, "patch 1\n@ 12 1 2\n-a\n+x\n+y\n"},
		"more removed":                   {[]api.Hunk{at(10, "a b", "x")}, "patch 1\n@ 10 2 1\n-a\n-b\n+x\n"},
		"two, added":                     {[]api.Hunk{at(0, "", "p"), at(1, "", "q")}, "patch 2\n@ 0 0 1\n+p\n@ 1 0 1\n+q\n"},
		"two, removed":                   {[]api.Hunk{at(0, "a", ""), at(2, "c", "")}, "patch 2\n@ 0 1 0\n-a\n@ 2 1 0\n-c\n"},
		"two, changed":                   {[]api.Hunk{at(0, "a", "A"), at(2, "c", "C")}, "patch 2\n@ 0 1 1\n-a\n+A\n@ 2 1 1\n-c\n+C\n"},
		"three, of all kinds":            {[]api.Hunk{at(1, "a b", ""), at(4, "", "y"), at(5, "e", "v w")}, "patch 3\n@ 1 2 0\n-a\n-b\n@ 4 0 1\n+y\n@ 5 1 2\n-e\n+v\n+w\n"},
		"much between":                   {[]api.Hunk{at(0, "", "p"), at(1000000, "a", "b")}, "patch 2\n@ 0 0 1\n+p\n@ 1000000 1 1\n-a\n+b\n"},
		"the greatest place, added":      {[]api.Hunk{at(greatest, "", "p")}, "patch 1\n@ 2147483647 0 1\n+p\n"},
		"the greatest place, removed":    {[]api.Hunk{at(greatest, "a b", "")}, "patch 1\n@ 2147483647 2 0\n-a\n-b\n"},
		"the greatest place, changed":    {[]api.Hunk{at(greatest, "a", "b")}, "patch 1\n@ 2147483647 1 1\n-a\n+b\n"},
		"right ahead of the greatest":    {[]api.Hunk{at(greatest-1, "", "p"), at(greatest, "", "q")}, "patch 2\n@ 2147483646 0 1\n+p\n@ 2147483647 0 1\n+q\n"},
		"up to a place ahead of it":      {[]api.Hunk{at(greatest-3, "a b", ""), at(greatest, "c", "")}, "patch 2\n@ 2147483644 2 0\n-a\n-b\n@ 2147483647 1 0\n-c\n"},
		"texts of no bytes":              {[]api.Hunk{{Old: []string{"", ""}, New: []string{""}}, {At: 3, New: []string{""}}}, "patch 2\n@ 0 2 1\n-\n-\n+\n@ 3 0 1\n+\n"},
		"texts with a mark ahead":        {[]api.Hunk{{Old: []string{"-a", "+b", "@c", "--", "-"}, New: []string{"-a", "+b", "@c", "++", "+"}}}, "patch 1\n@ 0 5 5\n--a\n-+b\n-@c\n---\n--\n+-a\n++b\n+@c\n+++\n++\n"},
		"texts like lines of a patch":    {[]api.Hunk{{Old: []string{"patch 1", "@ 0 0 1"}, New: []string{"patch 0", "@ 9 1 0", "-a"}}}, "patch 1\n@ 0 2 3\n-patch 1\n-@ 0 0 1\n+patch 0\n+@ 9 1 0\n+-a\n"},
		"texts with blanks":              {[]api.Hunk{{Old: []string{" ", "a b", " a"}, New: []string{"a ", "  "}}}, "patch 1\n@ 0 3 2\n- \n-a b\n- a\n+a \n+  \n"},
		"texts with a backslash and n":   {[]api.Hunk{{New: []string{"\\n", "\\"}}}, "patch 1\n@ 0 0 2\n+\\n\n+\\\n"},
		"texts with a carriage's return": {[]api.Hunk{{Old: []string{"a\r"}, New: []string{"\r"}}}, "patch 1\n@ 0 1 1\n-a\r\n+\r\n"},
		"texts with any bytes":           {[]api.Hunk{{Old: []string{"\xff\x00\xc3"}, New: []string{"é", "\xed\xa0\x80"}}}, "patch 1\n@ 0 1 2\n-\xff\x00\xc3\n+\xc3\xa9\n+\xed\xa0\x80\n"},
		"texts of 256 bytes":             {[]api.Hunk{{Old: []string{long(256)}, New: []string{strings.Repeat("é", 128), strings.Repeat("-", 256)}}}, "patch 1\n@ 0 1 2\n-" + long(256) + "\n+" + strings.Repeat("é", 128) + "\n+" + strings.Repeat("-", 256) + "\n"},
	}
}

// fault is one of hunks that are no patch: the place of the first one up to which they are none.
type fault struct {
	p     []api.Hunk
	place int
}

// noPatches are hunks that are no patch.
func noPatches() map[string]fault {
	good, late := at(0, "a", "x"), at(50, "", "z")
	return map[string]fault{
		"empty in both":                       {[]api.Hunk{{}}, 0},
		"empty in both, further on":           {[]api.Hunk{{At: 9, Old: []string{}, New: []string{}}}, 0},
		"empty in both, behind one":           {[]api.Hunk{good, at(2, "", ""), late}, 1},
		"empty in both, the last":             {[]api.Hunk{good, late, at(60, "", "")}, 2},
		"below 0":                             {[]api.Hunk{at(-1, "a", "b")}, 0},
		"far below 0":                         {[]api.Hunk{at(math.MinInt, "a", ""), late}, 0},
		"below 0, behind one":                 {[]api.Hunk{good, at(-1, "", "p")}, 1},
		"one past the greatest place":         {[]api.Hunk{at(greatest+1, "", "p")}, 0},
		"one past it, behind one":             {[]api.Hunk{good, at(greatest+1, "a", "")}, 1},
		"the greatest number":                 {[]api.Hunk{at(math.MaxInt, "a b", "")}, 0},
		"the greatest number, and the least":  {[]api.Hunk{good, at(math.MaxInt, "a", ""), at(math.MinInt, "a", "")}, 1},
		"no place is above the greatest":      {[]api.Hunk{at(greatest, "", "p"), at(greatest, "", "q")}, 1},
		"right behind one another, added":     {[]api.Hunk{at(0, "", "a"), at(0, "", "b")}, 1},
		"right behind one another, removed":   {[]api.Hunk{at(0, "a", ""), at(1, "b", "")}, 1},
		"right behind one another, changed":   {[]api.Hunk{good, at(3, "b c", "d"), at(5, "e", "f")}, 2},
		"over one another":                    {[]api.Hunk{at(3, "a b c", ""), at(4, "b", "x")}, 1},
		"the wrong way round":                 {[]api.Hunk{at(4, "a", ""), at(0, "b", "")}, 1},
		"the wrong way round, the third":      {[]api.Hunk{at(0, "a", ""), at(9, "b", ""), at(4, "", "c")}, 2},
		"an old text with 0A":                 {[]api.Hunk{{Old: []string{"a\x0a"}}}, 0},
		"a new text with 0A, behind one":      {[]api.Hunk{good, {At: 3, Old: of("a"), New: []string{"b", "\x0ac"}}, late}, 1},
		"an old text of 257 bytes":            {[]api.Hunk{good, late, {At: 99, Old: []string{"a", long(257)}}}, 2},
		"a new text of 257 bytes":             {[]api.Hunk{{New: []string{long(257)}}}, 0},
		"a new text of 257 bytes, by its é's": {[]api.Hunk{{New: []string{strings.Repeat("é", 128) + "e"}}}, 0},
		"two faults":                          {[]api.Hunk{good, at(1, "b", ""), at(-1, "", "")}, 1},
		"many, and the last one":              {append(many(2000), at(3999, "", "x")), 2000},
		"many, and one amid them":             {slices.Insert(many(2000), 700, at(1399, "", "x")), 700},
	}
}

// refusal is a text that is no patch's, and the line from which on it is none.
type refusal struct {
	s    string
	line int
}

// noTexts are texts that are no patch's.
func noTexts() map[string]refusal {
	return map[string]refusal{
		"no bytes":                          {"", 0},
		"0A alone":                          {"\n", 0},
		"two 0A":                            {"\n\n", 0},
		"an empty line ahead":               {"\npatch 0\n", 0},
		"no 0A behind the first":            {"patch 0", 0},
		"no number":                         {"patch\n", 0},
		"no number, a blank":                {"patch \n", 0},
		"two numbers":                       {"patch 0 0\n", 0},
		"another word":                      {"patches 0\n", 0},
		"another word by its case":          {"Patch 0\n", 0},
		"another mark":                      {"@ 0\n", 0},
		"no word":                           {" 0\n", 0},
		"a blank ahead of the word":         {" patch 0\n", 0},
		"no blank behind the word":          {"patch0\n", 0},
		"two blanks behind the word":        {"patch  0\n", 0},
		"a tab behind the word":             {"patch\t0\n", 0},
		"a blank behind the number":         {"patch 0 \n", 0},
		"a return behind the number":        {"patch 0\r\n", 0},
		"a byte 0 behind the number":        {"patch 0\x00\n", 0},
		"a hunk without a head":             {"@ 0 0 1\n+a\n", 0},
		"no hunk":                           {"patch 1\n", 1},
		"an empty line for a hunk":          {"patch 1\n\n", 1},
		"half a hunk's line":                {"patch 1\n@ 0", 1},
		"a hunk's line without 0A":          {"patch 1\n@ 0 0 1", 1},
		"a hunk's line without 0A, a fault": {"patch 1\n@ 0 0 0", 1},
		"a text for a hunk's line":          {"patch 1\n-a\n", 1},
		"a head for a hunk's line":          {"patch 1\npatch 1\n", 1},
		"a hunk, and nobody asked":          {"patch 0\n@ 0 0 1\n+a\n", 1},
		"a hunk's mark alone":               {"patch 1\n@\n", 1},
		"two numbers of a hunk":             {"patch 1\n@ 0 1\n-a\n", 1},
		"four numbers of a hunk":            {"patch 1\n@ 0 1 0 0\n-a\n", 1},
		"a blank for a number of a hunk":    {"patch 1\n@ 0  1\n+a\n", 1},
		"a blank behind a hunk's line":      {"patch 1\n@ 0 0 1 \n+a\n", 1},
		"a blank ahead of a hunk's line":    {"patch 1\n @ 0 0 1\n+a\n", 1},
		"no blank behind the mark":          {"patch 1\n@0 0 1\n+a\n", 1},
		"two marks":                         {"patch 1\n@@ 0 0 1\n+a\n", 1},
		"a return behind a hunk's line":     {"patch 1\n@ 0 0 1\r\n+a\n", 1},
		"empty in both":                     {"patch 1\n@ 0 0 0\n", 1},
		"empty in both, with a text":        {"patch 1\n@ 0 0 0\n+a\n", 1},
		"empty in both, the second":         {"patch 2\n@ 0 0 1\n+a\n@ 4 0 0\n", 3},
		"one past the greatest place":       {"patch 1\n@ 2147483648 0 1\n+a\n", 1},
		"one past it, the second":           {"patch 2\n@ 0 0 1\n+a\n@ 2147483648 0 1\n+b\n", 3},
		"right behind, added":               {"patch 2\n@ 0 0 1\n+a\n@ 0 0 1\n+b\n", 3},
		"right behind, removed":             {"patch 2\n@ 0 1 0\n-a\n@ 1 1 0\n-b\n", 3},
		"right behind, changed":             {"patch 2\n@ 4 2 1\n-a\n-b\n+c\n@ 6 1 1\n-d\n+e\n", 5},
		"over one another":                  {"patch 2\n@ 4 2 0\n-a\n-b\n@ 5 1 0\n-c\n", 4},
		"the wrong way round":               {"patch 2\n@ 4 1 0\n-a\n@ 0 1 0\n-b\n", 3},
		"the wrong way round, the third":    {"patch 3\n@ 0 0 1\n+a\n@ 4 0 1\n+b\n@ 2 0 1\n+c\n", 5},
		"no place is above the greatest":    {"patch 2\n@ 2147483647 0 1\n+a\n@ 2147483647 0 1\n+b\n", 3},
		"none but one past it":              {"patch 2\n@ 2147483647 0 1\n+a\n@ 2147483648 0 1\n+b\n", 3},
		"none, nothing follows":             {"patch 2\n@ 2147483647 0 1\n+a\n", 3},
		"none behind old texts":             {"patch 2\n@ 2147483646 1 0\n-a\n@ 2147483647 0 1\n+b\n", 3},
		"none of many is left":              {"patch 9223372036854775807\n@ 2147483647 0 1\n+a\n", 3},
		"no text":                           {"patch 1\n@ 0 0 1\n", 2},
		"no text without 0A":                {"patch 1\n@ 0 0 1\n+", 2},
		"a text without 0A":                 {"patch 1\n@ 0 0 1\n+a", 2},
		"another mark without 0A":           {"patch 1\n@ 0 0 1\n-a", 2},
		"a new text for an old one":         {"patch 1\n@ 0 1 0\n+a\n", 2},
		"an old text for a new one":         {"patch 1\n@ 0 0 1\n-a\n", 2},
		"the new text ahead of the old one": {"patch 1\n@ 0 1 1\n+a\n-b\n", 2},
		"a new text amid old ones":          {"patch 1\n@ 0 2 1\n-a\n+b\n-c\n", 3},
		"an old text amid new ones":         {"patch 1\n@ 0 1 2\n-a\n+b\n-c\n", 4},
		"too few old texts":                 {"patch 1\n@ 0 2 1\n-a\n+b\n", 3},
		"too few new texts":                 {"patch 1\n@ 0 1 2\n-a\n+b\n", 4},
		"too few new texts, a hunk behind":  {"patch 2\n@ 0 0 2\n+a\n@ 2 0 1\n+b\n", 3},
		"too many old texts":                {"patch 1\n@ 0 1 1\n-a\n-b\n+c\n", 3},
		"too many new texts":                {"patch 1\n@ 0 1 1\n-a\n+b\n+c\n", 4},
		"too many new texts, a hunk behind": {"patch 2\n@ 0 0 1\n+a\n+b\n@ 2 0 1\n+b\n", 3},
		"a text without a mark":             {"patch 1\n@ 0 0 1\na\n", 2},
		"an empty line for a text":          {"patch 1\n@ 0 0 1\n\n", 2},
		"a blank ahead of a mark":           {"patch 1\n@ 0 0 1\n +a\n", 2},
		"an old text of 257 bytes":          {"patch 1\n@ 0 2 0\n-a\n-" + long(257) + "\n", 3},
		"a new text of 257 bytes":           {"patch 1\n@ 0 0 1\n+" + long(257) + "\n", 2},
		"a new text of 257 bytes, a mark":   {"patch 1\n@ 0 0 1\n++" + long(256) + "\n", 2},
		"a new text of 257 bytes, no 0A":    {"patch 1\n@ 0 0 1\n+" + long(257), 2},
		"too few hunks":                     {"patch 2\n@ 0 0 1\n+a\n", 3},
		"too few hunks, a text":             {"patch 2\n@ 0 0 1\n+a\n+b\n", 3},
		"too many hunks":                    {"patch 1\n@ 0 0 1\n+a\n@ 2 0 1\n+b\n", 3},
		"anything behind":                   {"patch 0\nx\n", 1},
		"anything behind, without 0A":       {"patch 0\nx", 1},
		"an empty line behind":              {"patch 0\n\n", 1},
		"a blank behind":                    {"patch 0\n ", 1},
		"a patch behind":                    {"patch 0\npatch 0\n", 1},
		"a patch behind a hunk":             {"patch 1\n@ 0 0 1\n+a\npatch 0\n", 3},
		"two faults":                        {"patch 1\n@ 0 0 0\n@ 0 0 0\n", 1},
		"two faults, the place further on":  {"patch 2\n@ 0 1 0\n+a\n@ 0 0 1\n+b\n", 2},
		"the places, though it is cut":      {"patch 2\n@ 4 0 1\n+a\n@ 3 0 1\n+b", 3},
	}
}

// tinyHunks are hunks at each place up to the last one, with at most one text, a or none of no bytes, in each list.
func tinyHunks(last int) []api.Hunk {
	var l []api.Hunk
	for place := range last + 1 {
		for _, old := range [][]string{nil, {"a"}, {""}} {
			for _, new := range [][]string{nil, {"a"}, {""}} {
				if len(old)+len(new) > 0 {
					l = append(l, api.Hunk{At: place, Old: old, New: new})
				}
			}
		}
	}
	return l
}

// tiny are all patches of at most two such hunks.
func tiny(last int) [][]api.Hunk {
	l := [][]api.Hunk{nil}
	for _, h := range tinyHunks(last) {
		l = append(l, []api.Hunk{h})
		for _, other := range tinyHunks(last) {
			if other.At > h.At+len(h.Old) {
				l = append(l, []api.Hunk{h, other})
			}
		}
	}
	return l
}

// seeded is a patch that hangs on the seed alone.
func seeded(seed int) []api.Hunk {
	next := func(count int) int {
		seed = (seed*1103515245 + 12345) % (1 << 31)
		return seed >> 16 % count
	}
	some := func() []string {
		l := make([]string, next(4))
		for i := range l {
			b := make([]byte, next(9)*next(9)*next(5)) // 256 at most
			for k := range b {
				b[k] = "-+@ pa0\x00\xff\r1"[next(11)]
			}
			l[i] = string(b)
		}
		return l
	}
	var p []api.Hunk
	place := next(3)
	for range next(9) {
		h := api.Hunk{At: place, Old: some(), New: some()}
		if len(h.Old)+len(h.New) > 0 {
			p = append(p, h)
		}
		place += len(h.Old) + 1 + next(3)*next(1000)
	}
	return p
}

// each goes over patches of all kinds.
func each(do func(name string, p []api.Hunk)) {
	for name, x := range spelt() {
		do(name, x.p)
	}
	do("each byte but 0A", []api.Hunk{{Old: anyBytes(), New: anyBytes()}})
	do("many", many(3000))
	do("many texts in one", []api.Hunk{{At: 7, Old: numbered("o", 3000), New: numbered("n", 5000)}})
	for seed := range 300 {
		do(fmt.Sprintf("by %d", seed), seeded(seed))
	}
	for _, p := range tiny(3) {
		do("tiny", p)
	}
}

// shown is how a thing begins.
func shown(x any) string {
	s := fmt.Sprintf("%q", x)
	return s[:min(len(s), 400)]
}

// like tells whether hunks are the same, field by field.
func like(a, b []api.Hunk) bool {
	return slices.EqualFunc(a, b, func(x, y api.Hunk) bool {
		return x.At == y.At && slices.Equal(x.Old, y.Old) && slices.Equal(x.New, y.New)
	})
}

// prints tells a fault, unless Print answers the text.
func prints(t *testing.T, name string, p []api.Hunk, want string) {
	t.Helper()
	if s, place, e := vpatch.Print(p); s != want || place != 0 || e != api.OK {
		t.Fatalf("%s: Print(%s): %s, %d, %d, want %s, 0, 0", name, shown(p), shown(s), place, e, shown(want))
	}
}

// noPrint tells a fault, unless Print refuses the hunks, up to that one.
func noPrint(t *testing.T, name string, p []api.Hunk, place int) {
	t.Helper()
	if s, got, e := vpatch.Print(p); s != "" || got != place || e != api.ErrHunks {
		t.Fatalf("%s: Print(%s): %s, %d, %d, want no bytes, %d, 80", name, shown(p), shown(s), got, e, place)
	}
}

// reads tells a fault, unless Parse answers the patch.
func reads(t *testing.T, name, s string, want []api.Hunk) {
	t.Helper()
	if p, line, e := vpatch.Parse(s); !like(p, want) || line != 0 || e != api.OK {
		t.Fatalf("%s: Parse(%s): %s, %d, %d, want %s, 0, 0", name, shown(s), shown(p), line, e, shown(want))
	}
}

// refuses tells a fault, unless Parse refuses the text, from that line on.
func refuses(t *testing.T, name, s string, line int) {
	t.Helper()
	if p, got, e := vpatch.Parse(s); len(p) != 0 || got != line || e != api.ErrSyntax {
		t.Fatalf("%s: Parse(%s): %s, %d, %d, want none, %d, 90", name, shown(s), shown(p), got, e, line)
	}
}

// The chapter's own examples.

func TestTheChaptersExamples(t *testing.T) {
	prints(t, "1", []api.Hunk{at(1, "b", "x y")}, "patch 1\x0a@ 1 1 2\x0a-b\x0a+x\x0a+y\x0a")
	prints(t, "1", nil, "patch 0\x0a")
	noPrint(t, "1", []api.Hunk{at(0, "", "")}, 0)
	noPrint(t, "1", []api.Hunk{at(0, "", "a"), at(0, "", "b")}, 1)
	for s, line := range map[string]int{
		"":                                    0,
		"patch 1\x0a":                         1,
		"patch 0\x0ax":                        1,
		"patch 01\x0a":                        0,
		"patch 0":                             0,
		"patch 1\x0a@ 0 0 0\x0a":              1,
		"patch 1\x0a@ 0 1 0\x0a+a\x0a":        2,
		"patch 2\n@ 0 1 0\n-a\n@ 1 1 0\n-b\n": 3,
	} {
		refuses(t, "2 and 3", s, line)
	}
	reads(t, "3", "patch 2\x0a@ 0 1 0\x0a-a\x0a@ 2 1 0\x0a-b\x0a", []api.Hunk{at(0, "a", ""), at(2, "b", "")})
}

// P9.1

func TestPrintTellsAPatchsText(t *testing.T) {
	for name, x := range spelt() {
		prints(t, name, x.p, x.s)
	}
}

func TestPrintTellsWhatTheWordsSay(t *testing.T) {
	each(func(name string, p []api.Hunk) { prints(t, name, p, worded(p)) })
}

func TestPrintRefusesWhatIsNoPatch(t *testing.T) {
	for name, f := range noPatches() {
		noPrint(t, name, f.p, f.place)
		noPrint(t, name+", nothing behind it", f.p[:f.place+1], f.place)
		noPrint(t, name+", and more faults behind it", append(slices.Clone(f.p[:f.place+1]), at(-1, "", ""), at(math.MaxInt, "", "a")), f.place)
		prints(t, name+", without it", f.p[:f.place], worded(f.p[:f.place]))
	}
}

func TestPrintTellsTextsThatAreTooLongToRead(t *testing.T) {
	p := []api.Hunk{{New: slices.Repeat([]string{long(256)}, api.MaxPatch/258+1)}}
	s := worded(p)
	prints(t, "too long", p, s)
	refuses(t, "too long", s, 0)
}

// P9.2

func TestParseReadsAPatchsText(t *testing.T) {
	for name, x := range spelt() {
		reads(t, name, x.s, x.p)
	}
}

func TestParseReadsWhatTheWordsSay(t *testing.T) {
	each(func(name string, p []api.Hunk) { reads(t, name, worded(p), p) })
}

func TestParseRefusesFromTheFirstLineOnThatMayNotBe(t *testing.T) {
	for name, x := range noTexts() {
		refuses(t, name, x.s, x.line)
	}
}

// The beginnings of all tiny patches' texts tell which line may follow: no other one may.
func TestParseTellsTheFirstLineUpToWhichNoPatchBegins(t *testing.T) {
	patches, begins := map[string][]api.Hunk{}, map[string]bool{"": true}
	for _, p := range tiny(5) {
		s := worded(p)
		patches[s] = p
		for i := range s {
			if s[i] == 0x0a {
				begins[s[:i+1]] = true
			}
		}
	}
	lines := []string{
		"patch 0", "patch 1", "patch 2", "patch", "@ 0 0 1", "@ 0 1 0", "@ 0 1 1", "@ 1 0 1", "@ 1 1 0", "@ 2 0 1", "@ 2 1 1", "@ 3 0 1", "@ 3 1 0",
		"@ 0 0 0", "@ 3 0 0", "@ 0 1", "@ 00 1 0", "-a", "-", "+a", "+", "", "a", "@",
	}
	count := 0
	var walk func(ahead string)
	walk = func(ahead string) {
		count++
		if p, whole := patches[ahead]; whole {
			reads(t, "whole", ahead, p)
		} else {
			refuses(t, "more must follow", ahead, lineCount(ahead))
		}
		for _, line := range lines {
			s := ahead + line + "\x0a"
			if line != "" {
				refuses(t, "no line", ahead+line, lineCount(ahead))
			}
			if begins[s] {
				walk(s)
				continue
			}
			refuses(t, "no such line", s, lineCount(ahead))
			refuses(t, "no such line", s+"-a\x0a", lineCount(ahead))
			refuses(t, "no such line", s+"@ 5 0 1", lineCount(ahead))
		}
	}
	walk("")
	if count < 250 {
		t.Fatalf("%d beginnings were gone over", count)
	}
}

// Each number of a text, by the lines ahead of it and what stands about it.
var numbersOfATexts = map[string]struct{ ahead, left, right string }{
	"hunks":                   {"", "patch ", ""},
	"place":                   {"patch 1\n", "@ ", " 0 1"},
	"place of the second":     {"patch 2\n@ 0 0 1\n+a\n", "@ ", " 1 0"},
	"old texts":               {"patch 1\n", "@ 0 ", " 1"},
	"old texts, no new":       {"patch 1\n", "@ 0 ", " 0"},
	"new texts":               {"patch 1\n", "@ 0 1 ", ""},
	"new texts, no old":       {"patch 1\n", "@ 3 0 ", ""},
	"new texts of the second": {"patch 2\n@ 0 0 1\n+a\n", "@ 3 1 ", ""},
}

func TestNumbersHaveOneFormEach(t *testing.T) {
	for name, x := range numbersOfATexts {
		for _, n := range []string{
			"", "00", "01", "001", "0001", "-0", "-1", "-9223372036854775808", "+0", "+1", " 1", "1 ", "\t1", "1\r", "1\x00", "1.0", "1.", "1e0", "0x1", "0b1", "1_0", "a", "-", "+", "1a", "١", "１",
			"9223372036854775808", "9223372036854775809", "18446744073709551615", "18446744073709551616", "18446744073709551617", "99999999999999999999999999999999999999", "09223372036854775807", long(300), strings.Repeat("9", 5000),
		} {
			for _, behind := range []string{"", "-a\n", "+a\n", "-a\n+a\n", "@ 0 0 1\n+a\n"} {
				refuses(t, name+" "+n, x.ahead+x.left+n+x.right+"\n"+behind, lineCount(x.ahead))
			}
		}
	}
}

func TestAPlaceIsAtMostTheGreatest(t *testing.T) {
	for _, n := range []string{"2147483648", "4294967295", "4294967296", "4294967297", "9223372036854775807"} {
		refuses(t, n, "patch 1\n@ "+n+" 0 1\n+a\n", 1)
		refuses(t, n, "patch 1\n@ "+n+" 1 0\n-a\n", 1)
		refuses(t, n+", the second", "patch 2\n@ 7 1 1\n-a\n+b\n@ "+n+" 0 1\n+a\n", 4)
	}
	reads(t, "the greatest", "patch 1\n@ 2147483647 0 1\n+a\n", []api.Hunk{at(greatest, "", "a")})
	reads(t, "the greatest, the second", "patch 2\n@ 2147483645 1 0\n-a\n@ 2147483647 0 1\n+a\n", []api.Hunk{at(greatest-2, "a", ""), at(greatest, "", "a")})
}

// No such number is too great by itself: what it asks for is missing further on, and is told there.
func TestNumbersGreaterThanWhatFollows(t *testing.T) {
	for _, n := range []string{"3", "10", "4096", "2147483647", "2147483648", "2147483649", "4294967296", "9223372036854775806", "9223372036854775807"} {
		refuses(t, n+" hunks, none", "patch "+n+"\n", 1)
		refuses(t, n+" hunks, one", "patch "+n+"\n@ 0 1 1\n-a\n+b\n", 4)
		refuses(t, n+" hunks, two", "patch "+n+"\n@ 0 0 1\n+a\n@ 1 0 1\n+b\n", 5)
		refuses(t, n+" hunks, a text", "patch "+n+"\n@ 0 0 1\n+a\n+b\n", 3)
		refuses(t, n+" old texts, none", "patch 1\n@ 0 "+n+" 0\n", 2)
		refuses(t, n+" old texts, one", "patch 1\n@ 0 "+n+" 0\n-a\n", 3)
		refuses(t, n+" old texts, two", "patch 1\n@ 0 "+n+" 1\n-a\n-b\n", 4)
		refuses(t, n+" old texts, a new one", "patch 1\n@ 0 "+n+" 1\n-a\n+b\n", 3)
		refuses(t, n+" old texts at the greatest place", "patch 2\n@ 2147483647 "+n+" 0\n-a\n", 3)
		refuses(t, n+" new texts, none", "patch 1\n@ 0 0 "+n+"\n", 2)
		refuses(t, n+" new texts, one", "patch 1\n@ 0 1 "+n+"\n-a\n+b\n", 4)
		refuses(t, n+" new texts, a hunk", "patch 2\n@ 0 0 "+n+"\n+b\n@ 1 0 1\n+c\n", 3)
		refuses(t, n+" texts each, none", "patch "+n+"\n@ 0 "+n+" "+n+"\n", 2)
	}
}

func TestATextHasAtMostMaxPatchBytes(t *testing.T) {
	// Lines of 258 bytes each, and one that fills up what is left.
	filled := func(count int) ([]api.Hunk, string) {
		for texts := count / 258; ; texts-- {
			p := []api.Hunk{{New: slices.Repeat([]string{long(256)}, texts)}}
			left := count - len(worded(p))
			if left >= 2 && left <= 258 {
				p[0].New = append(p[0].New, long(left-2))
				return p, worded(p)
			}
		}
	}
	p, s := filled(api.MaxPatch)
	if len(s) != 1<<24 {
		t.Fatalf("%d bytes", len(s))
	}
	reads(t, "just as many", s, p)
	prints(t, "just as many", p, s)
	last := lineCount(s) - 1
	refuses(t, "just as many, without the last one", s[:len(s)-1], last)
	refuses(t, "just as many, another last one", s[:len(s)-1]+"x", last)
	refuses(t, "just as many, another byte in the third line", strings.Replace(s, "+", "-", 1), 2)
	refuses(t, "one more", s+"\x0a", 0)
	refuses(t, "one more", s+"x", 0)
	refuses(t, "one more, refused elsewhere, too", strings.Replace(s, "+", "-", 1)+"\x0a", 0)
	p, s = filled(api.MaxPatch + 1)
	prints(t, "a patch's of one more", p, s)
	refuses(t, "a patch's of one more", s, 0)
	refuses(t, "one line", strings.Repeat("x", api.MaxPatch), 0)
	refuses(t, "one line behind a head", "patch 1\x0a"+strings.Repeat(" ", api.MaxPatch-8), 1)
	refuses(t, "blanks behind a mark", "patch 1\x0a@"+strings.Repeat(" ", api.MaxPatch-10)+"\x0a", 1)
	refuses(t, "one number", "patch "+strings.Repeat("1", api.MaxPatch-7)+"\x0a", 0)
	refuses(t, "one text", "patch 1\x0a@ 0 0 1\x0a+"+strings.Repeat("1", api.MaxPatch-18)+"\x0a", 2)
	refuses(t, "empty lines", strings.Repeat("\x0a", api.MaxPatch), 0)
}

func TestATextOfALineHasAtMost256Bytes(t *testing.T) {
	for _, count := range []int{0, 1, 255, 256} {
		reads(t, "old", "patch 1\n@ 0 1 0\n-"+long(count)+"\n", []api.Hunk{{Old: []string{long(count)}}})
		reads(t, "new", "patch 1\n@ 0 1 1\n-\n+"+long(count)+"\n", []api.Hunk{{Old: []string{""}, New: []string{long(count)}}})
	}
	for _, count := range []int{257, 258, 512, 70000} {
		refuses(t, "old", "patch 1\n@ 0 1 0\n-"+long(count)+"\n", 2)
		refuses(t, "new", "patch 1\n@ 0 1 1\n-\n+"+long(count)+"\n", 3)
		refuses(t, "new, of the second", "patch 2\n@ 0 1 1\n-\n+\n@ 2 0 2\n+"+long(256)+"\n+"+long(count)+"\n", 6)
	}
}

// P9.3

func TestAPatchComesBackOutOfItsText(t *testing.T) {
	each(func(name string, p []api.Hunk) {
		s, _, e := vpatch.Print(p)
		if e != api.OK {
			t.Fatalf("%s: Print(%s): %d", name, shown(p), e)
		}
		reads(t, name, s, p)
	})
}

// What is read of any text must be written as just that text.
func TestNoOtherTextIsReadAsAPatch(t *testing.T) {
	read := 0
	asked := func(s string) {
		p, line, e := vpatch.Parse(s)
		if e != api.OK {
			refuses(t, "any", s, line)
			return
		}
		read++
		prints(t, "any", p, s)
		if worded(p) != s {
			t.Fatalf("Parse(%s): %s", shown(s), shown(p))
		}
	}
	texts := []string{"patch 0\n", "patch 12\n", "patch 1\n@ 10 2 1\n-a\n--\n++\n", "patch 2\n@ 0 1 0\n-\n@ 2 0 1\n+@ 2\n", "patch 2\n@ 2147483646 0 1\n+\xff\n@ 2147483647 0 1\n+a b\n"}
	for seed := range 8 {
		texts = append(texts, worded(seeded(seed)))
	}
	for _, s := range texts {
		for i := range len(s) + 1 {
			for _, b := range "0129-+@ ap\x00\n\r" {
				asked(s[:i] + string(b) + s[i:])
				if i < len(s) {
					asked(s[:i] + string(b) + s[i+1:])
				}
			}
			for k := i; k <= min(i+9, len(s)); k++ {
				asked(s[:i] + s[k:])
				asked(s[:k] + s[i:])
			}
		}
	}
	if read < 1000 {
		t.Fatalf("only %d were read", read)
	}
}

// P9.4

func TestNoPatchsTextIsTheBeginningOfAnotherOnes(t *testing.T) {
	var texts []string
	seen := map[string]bool{}
	each(func(name string, p []api.Hunk) {
		if s, _, _ := vpatch.Print(p); !seen[s] {
			seen[s] = true
			texts = append(texts, s)
		}
	})
	slices.Sort(texts) // A beginning of some texts stands right ahead of one of them.
	for i, s := range texts[1:] {
		if strings.HasPrefix(s, texts[i]) {
			t.Fatalf("%s begins %s", shown(texts[i]), shown(s))
		}
	}
}

func TestATextWithAnythingBehindItIsRefused(t *testing.T) {
	each(func(name string, p []api.Hunk) {
		if name == "tiny" && len(p) > 1 && p[1].At%2 > 0 {
			return
		}
		s := worded(p)
		for _, behind := range []string{"\n", "x", "x\n", " ", "\x00", "0", "-", "-a\n", "+a\n", "@", "@ 2147483647 0 1\n+a\n", "patch 0\n", s} {
			refuses(t, name, s+behind, lineCount(s))
		}
	})
}

func TestATextThatIsCutAnywhereIsRefused(t *testing.T) {
	each(func(name string, p []api.Hunk) {
		s := worded(p)
		if len(s) > 5000 {
			for _, cut := range []int{0, 1, 7, 8, 9, 20, len(s) / 2, len(s) - 9, len(s) - 3, len(s) - 2, len(s) - 1} {
				refuses(t, name, s[:cut], lineCount(s[:cut]))
			}
			return
		}
		for cut := range s {
			refuses(t, name, s[:cut], lineCount(s[:cut]))
		}
	})
}

// P9.5

func TestWhateverStandsBehindWhatIsRefused(t *testing.T) {
	for name, x := range noTexts() {
		lines := strings.SplitAfter(x.s, "\x0a")
		if x.line >= len(lines) || !strings.HasSuffix(lines[x.line], "\x0a") {
			continue // There is no such line: what stands behind it would be it.
		}
		refused := strings.Join(lines[:x.line+1], "")
		refuses(t, name+", nothing behind it", refused, x.line)
		for _, behind := range []string{"\n", "x", "x\n", "-a\n", "+a\n", "+a", "-a\n+a\n", "@ 9 0 1\n+a\n", "@ 2147483647 1 0\n-a\n", "patch 0\n", "patch 1\n@ 0 0 1\n+a\n", strings.Repeat("+\n", 3000), long(5000), "\x00\xff"} {
			refuses(t, name+", anything behind it", refused+behind, x.line)
		}
		for other, y := range spelt() {
			refuses(t, name+", behind it "+other, refused+y.s, x.line)
		}
	}
}

func TestALineIsRefusedWhateverStandsBehindIt(t *testing.T) {
	for seed := range 60 {
		lines := strings.SplitAfter(worded(seeded(seed)), "\x0a")
		lines = lines[:len(lines)-1]
		for i := range lines {
			for _, bad := range []string{"\n", "patch 01\n", "@ 0 0 0\n", "@ 1 1\n", "x\n", "-" + long(257) + "\n", "+" + long(257) + "\n"} {
				ahead := strings.Join(lines[:i], "") + bad
				refuses(t, "a line for another one", ahead, i)
				refuses(t, "a line for another one, the same behind it", ahead+strings.Join(lines[i+1:], ""), i)
				refuses(t, "a line put in", ahead+strings.Join(lines[i:], ""), i)
			}
		}
	}
}

// R2

func TestTheSameIsAnsweredAgain(t *testing.T) {
	for range 2 {
		for name, x := range spelt() {
			prints(t, name, x.p, x.s)
			reads(t, name, x.s, x.p)
		}
		for name, f := range noPatches() {
			noPrint(t, name, f.p, f.place)
		}
		for name, x := range noTexts() {
			refuses(t, name, x.s, x.line)
		}
	}
}

// R3

// roomy is a list with room behind its end, in which something stands.
func roomy(l []string) []string {
	return append(slices.Clone(l), "\n", "behind", "")[:len(l)]
}

// roomyHunks are hunks with such lists, and with room behind their end, in which no patch's hunks stand.
func roomyHunks(p []api.Hunk) []api.Hunk {
	var l []api.Hunk
	for _, h := range p {
		l = append(l, api.Hunk{At: h.At, Old: roomy(h.Old), New: roomy(h.New)})
	}
	return append(l, at(-1, "no", "patch"), at(0, "", ""))[:len(p)]
}

func TestWhatIsHandedInIsNotChangedNorReadBehindItsEnd(t *testing.T) {
	each(func(name string, p []api.Hunk) {
		l := roomyHunks(p)
		prints(t, name, l, worded(p))
		if !like(l, p) || !like(l[len(l):][:2], []api.Hunk{at(-1, "no", "patch"), at(0, "", "")}) {
			t.Fatalf("%s: changed: %s", name, shown(l))
		}
		for _, h := range l {
			for _, texts := range [][]string{h.Old, h.New} {
				if !slices.Equal(texts[len(texts):][:3], []string{"\n", "behind", ""}) {
					t.Fatalf("%s: changed behind a list's end: %s", name, shown(texts[:len(texts)+3]))
				}
			}
		}
	})
	for name, f := range noPatches() {
		l := roomyHunks(f.p)
		noPrint(t, name, l, f.place)
		if !like(l, f.p) {
			t.Fatalf("%s: changed: %s", name, shown(l))
		}
	}
}

// write writes into all of a list, grows it within its room, and writes there too.
func write(l []string) {
	for i := range l[:cap(l)] {
		l[:cap(l)][i] = "written"
	}
	_ = append(l, "grown")
}

// writeHunks does so with hunks and all their lists.
func writeHunks(p []api.Hunk) {
	for i := range p {
		write(p[i].Old)
		write(p[i].New)
		p[i].At = -7
	}
	all := p[:cap(p)]
	for i := range all {
		all[i] = api.Hunk{At: -9, Old: of("written"), New: of("written")}
	}
}

func TestWhatIsHandedOutIsTheCallersOwn(t *testing.T) {
	each(func(name string, p []api.Hunk) {
		s := worded(p)
		one, _, _ := vpatch.Parse(s)
		other, _, _ := vpatch.Parse(s)
		writeHunks(one)
		if !like(other, p) {
			t.Fatalf("%s: written into another answer: %s", name, shown(other))
		}
		reads(t, name+", written into an answer", s, p)
	})
}

func TestPrintKeepsNothingOfWhatIsHandedIn(t *testing.T) {
	each(func(name string, p []api.Hunk) {
		l := roomyHunks(p)
		s, _, _ := vpatch.Print(l)
		writeHunks(l)
		if s != worded(p) {
			t.Fatalf("%s: written into what was handed in: %s", name, shown(s))
		}
	})
}

func TestNoTwoListsOfOneAnswerShareAny(t *testing.T) {
	patches := [][]api.Hunk{
		{at(0, "a b c", "d e f"), at(5, "g h i j k", "l"), at(12, "", "m n o"), at(15, "p q r", "")},
		{{Old: of("a a a"), New: of("a a a")}, {At: 4, Old: of("a a a"), New: of("a a a")}},
		many(20), seeded(3), seeded(5), seeded(8),
	}
	for _, p := range patches {
		for which := range 2 * len(p) {
			got, _, e := vpatch.Parse(worded(p))
			if e != api.OK {
				t.Fatal(e)
			}
			want := slices.Clone(p)
			h, wantH := &got[which/2], &want[which/2]
			if which%2 == 0 {
				write(h.Old)
				wantH.Old = slices.Repeat([]string{"written"}, len(wantH.Old))
			} else {
				write(h.New)
				wantH.New = slices.Repeat([]string{"written"}, len(wantH.New))
			}
			if !like(got, want) {
				t.Fatalf("written into the list %d of %s: %s", which, shown(p), shown(got))
			}
		}
	}
}

// All lists at once, each with what the caller wrote into its room, must show just that.
func TestTheRoomBehindAListIsItsOwn(t *testing.T) {
	for _, p := range [][]api.Hunk{many(50), seeded(3), seeded(5), {at(0, "a b c", "d e f g h"), at(9, "i j k l m", "n o p")}} {
		got, _, _ := vpatch.Parse(worded(p))
		var lists [][]string
		for _, h := range got {
			lists = append(lists, h.Old[:cap(h.Old)], h.New[:cap(h.New)])
		}
		for i, l := range lists {
			for k := range l {
				l[k] = fmt.Sprint(i, k)
			}
		}
		for i, l := range lists {
			for k := range l {
				if l[k] != fmt.Sprint(i, k) {
					t.Fatalf("the list %d, %d: %s", i, k, l[k])
				}
			}
		}
	}
}

// R6

func TestEmptyListsAreTheSame(t *testing.T) {
	empties := [][]string{nil, {}, make([]string, 0, 5), of("a b")[:0]}
	for _, one := range empties {
		for _, other := range empties {
			prints(t, "one each", []api.Hunk{{At: 1, Old: one, New: of("x")}, {At: 3, Old: of("b"), New: other}}, "patch 2\n@ 1 0 1\n+x\n@ 3 1 0\n-b\n")
			noPrint(t, "empty in both", []api.Hunk{{Old: one, New: other}}, 0)
		}
	}
	prints(t, "no hunks", many(2)[:0], "patch 0\n")
}

// R1

func TestWhateverIsHandedInIsAnswered(t *testing.T) {
	numbers := []int{math.MinInt, math.MinInt + 1, -1 << 31, -1, 0, 1, 2, greatest - 1, greatest, greatest + 1, math.MaxInt - 1, math.MaxInt}
	lists := [][]string{nil, {}, of("a"), {"", "\n"}, {long(256), long(257)}, {"\xff", "\x00"}}
	var hunks []api.Hunk
	for _, n := range numbers {
		for _, old := range lists {
			for _, new := range lists {
				hunks = append(hunks, api.Hunk{At: n, Old: old, New: new})
			}
		}
	}
	for i, h := range hunks {
		for _, other := range hunks[i%11:] {
			p := []api.Hunk{h, other}
			if s, place, e := vpatch.Print(p); e == api.OK {
				reads(t, "any", s, p)
			} else {
				noPrint(t, "any", p, place)
			}
		}
	}
	for seed := range 20000 {
		b := make([]byte, seed%40)
		for i := range b {
			seed = (seed*1103515245 + 12345) % (1 << 31)
			b[i] = "patch 01@-+\n\n \xff"[seed>>16%15]
		}
		for _, s := range []string{string(b), "patch 1\n" + string(b), "patch 1\n@ 0 1 1\n" + string(b)} {
			if p, line, e := vpatch.Parse(s); e == api.OK {
				prints(t, "any", p, s)
			} else if line < 0 || line > lineCount(s) {
				t.Fatalf("Parse(%s): %d", shown(s), line)
			}
		}
	}
}
