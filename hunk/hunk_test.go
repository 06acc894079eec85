package hunk_test

import (
	"fmt"
	"math"
	"slices"
	"strconv"
	"strings"
	"testing"

	"scrim/api"
	"scrim/hunk"
)

// greatest is the greatest place of a hunk that may be.
const greatest = 1<<31 - 1

// most is of how many lines it can be asked, at most, which are touched.
const most = 1 << 20

// long is a text of so many bytes.
func long(count int) string { return strings.Repeat("x", count) }

// of are the texts that words with blanks between them are.
func of(words string) []string { return strings.Fields(words) }

// at is a hunk with the texts that words are.
func at(place int, old, new string) api.Hunk {
	return api.Hunk{At: place, Old: of(old), New: of(new)}
}

// numbered are so many texts that stand in no other list here.
func numbered(name string, count int) []string {
	l := make([]string, count)
	for i := range l {
		l[i] = name + strconv.Itoa(i)
	}
	return l
}

// many are so many hunks that each change one text of numbered ones, with one text between two, to two.
func many(count int) []api.Hunk {
	p := make([]api.Hunk, count)
	for i := range p {
		p[i] = api.Hunk{At: 2 * i, Old: []string{"t" + strconv.Itoa(2*i)}, New: []string{"u", "v"}}
	}
	return p
}

// patches are hunks that may be a patch.
func patches() map[string][]api.Hunk {
	return map[string][]api.Hunk{
		"no hunks":                          nil,
		"an empty list":                     {},
		"a text added":                      {at(0, "", "p")},
		"a text removed":                    {at(0, "a", "")},
		"a text changed":                    {at(1, "b", "B")},
		"a text changed to the same":        {at(0, "a", "a")},
		"more added":                        {at(1, "b", "x y z")},
		"more removed":                      {at(1, "b c d", "x")},
		"one text between, changed":         {at(0, "a", "A"), at(2, "c", "C")},
		"one text between, added":           {at(0, "", "p"), at(1, "", "q"), at(2, "", "r")},
		"one text between, removed":         {at(0, "a", ""), at(2, "c", ""), at(4, "e", "")},
		"one text between, of all kinds":    {at(0, "a b", "x"), at(3, "", "y"), at(4, "e", "v w"), at(6, "g", "")},
		"much between":                      {at(3, "", "p"), at(1000000, "a", ""), at(2000000, "b", "c d")},
		"the greatest place, added":         {at(greatest, "", "p")},
		"the greatest place, removed":       {at(greatest, "a b c", "")},
		"the greatest place, changed":       {at(greatest, "a", "b")},
		"one right ahead of the greatest":   {at(greatest-1, "", "p"), at(greatest, "", "q")},
		"up to right ahead of the greatest": {at(0, "a", "b"), at(greatest-3, "a b", "c d"), at(greatest, "", "q")},
		"the first and the greatest":        {at(0, "a", ""), at(greatest, "b", "")},
		"empty texts":                       {{Old: []string{""}}, {At: 2, New: []string{"", ""}}, {At: 4, Old: []string{"", ""}, New: []string{""}}},
		"any bytes":                         {{Old: []string{"\x00", "\x0d", "\x09", "\x0b"}, New: []string{"\xff\xfe", "é", "\ufffd", "\\n"}}},
		"the longest texts":                 {{Old: []string{long(256)}, New: []string{long(256), long(255)}}, {At: 9, New: []string{strings.Repeat("é", 128)}}},
		"many":                              many(3000),
		"many texts in one":                 {{At: 7, Old: numbered("o", 3000), New: numbered("n", 5000)}},
	}
}

// noPatches are hunks that are no patch, and the place of the first one up to which they are none.
func noPatches() map[string]struct {
	p     []api.Hunk
	place int
} {
	type fault = struct {
		p     []api.Hunk
		place int
	}
	zeroA := func(s string) []string { return []string{"a", s + "\n"} }
	return map[string]fault{
		"empty in both":                                    {[]api.Hunk{{}}, 0},
		"empty in both, further on":                        {[]api.Hunk{{At: 7, Old: []string{}, New: []string{}}}, 0},
		"empty in both, behind one":                        {[]api.Hunk{at(0, "a", "b"), at(2, "", "")}, 1},
		"empty in both, ahead of one":                      {[]api.Hunk{at(0, "", ""), at(2, "a", "b")}, 0},
		"empty in both, between two":                       {[]api.Hunk{at(0, "a", "b"), at(2, "", ""), at(4, "", "x")}, 1},
		"empty in both, at the greatest place":             {[]api.Hunk{at(greatest, "", "")}, 0},
		"below 0":                                          {[]api.Hunk{at(-1, "a", "")}, 0},
		"far below 0":                                      {[]api.Hunk{at(math.MinInt, "a", "b")}, 0},
		"below 0, added":                                   {[]api.Hunk{at(-1, "", "a")}, 0},
		"below 0, up to a greater place":                   {[]api.Hunk{at(-2, "a b c d", "")}, 0},
		"below 0, behind one":                              {[]api.Hunk{at(0, "a", ""), at(-1, "a", "")}, 1},
		"below 0, ahead of one":                            {[]api.Hunk{at(-1, "", "p"), at(0, "a", "")}, 0},
		"above the greatest place":                         {[]api.Hunk{at(greatest+1, "", "p")}, 0},
		"above the greatest place, removed":                {[]api.Hunk{at(greatest+1, "a", "")}, 0},
		"above the greatest place, behind one":             {[]api.Hunk{at(greatest, "", "p"), at(greatest+1, "", "q")}, 1},
		"above the greatest place, less ahead":             {[]api.Hunk{at(0, "a b", ""), at(greatest+1, "c", "")}, 1},
		"the greatest number":                              {[]api.Hunk{at(math.MaxInt, "", "p")}, 0},
		"the greatest number, with texts":                  {[]api.Hunk{at(math.MaxInt, "a b", "c"), at(3, "", "d")}, 0},
		"the greatest number, and the least":               {[]api.Hunk{at(math.MaxInt, "a", "b"), at(math.MinInt, "", "d")}, 0},
		"the greatest number, behind one":                  {[]api.Hunk{at(3, "a", ""), at(math.MaxInt, "b", "")}, 1},
		"the least number, behind one":                     {[]api.Hunk{at(greatest, "a", ""), at(math.MinInt, "b", "")}, 1},
		"no place is above the greatest":                   {[]api.Hunk{at(greatest, "a", ""), at(greatest, "b", "")}, 1},
		"at one place, changed":                            {[]api.Hunk{at(1, "a", "b"), at(1, "a", "c")}, 1},
		"at one place, added":                              {[]api.Hunk{at(1, "", "b"), at(1, "", "c")}, 1},
		"at one place, 0":                                  {[]api.Hunk{at(0, "", "b"), at(0, "a", "")}, 1},
		"at one place, the third":                          {[]api.Hunk{at(0, "a", ""), at(2, "", "c"), at(2, "", "d")}, 2},
		"right behind, removed":                            {[]api.Hunk{at(0, "a", ""), at(1, "b", "")}, 1},
		"right behind, added":                              {[]api.Hunk{at(0, "a", "x"), at(1, "", "y")}, 1},
		"right behind more":                                {[]api.Hunk{at(4, "a b c", "x"), at(7, "d", "y")}, 1},
		"right behind, at the greatest place":              {[]api.Hunk{at(greatest-2, "a b", ""), at(greatest, "", "y")}, 1},
		"over one another":                                 {[]api.Hunk{at(1, "a b c", ""), at(2, "b", "x")}, 1},
		"over one another by one":                          {[]api.Hunk{at(1, "a b c", ""), at(3, "c", "x")}, 1},
		"the wrong way round":                              {[]api.Hunk{at(4, "a", "b"), at(1, "c", "d")}, 1},
		"the wrong way round, added":                       {[]api.Hunk{at(1, "", "b"), at(0, "", "d")}, 1},
		"the wrong way round, the third":                   {[]api.Hunk{at(2, "", "b"), at(5, "", "d"), at(0, "a", "")}, 2},
		"the wrong way round, of the third and the second": {[]api.Hunk{at(0, "a", "b"), at(5, "c", "d"), at(3, "e", "f")}, 2},
		"behind what New makes of it alone":                {[]api.Hunk{at(0, "a b c", ""), at(1, "d", "")}, 1},
		"a text with 0A in Old":                            {[]api.Hunk{{Old: []string{"a\nb"}}}, 0},
		"a text with 0A in New":                            {[]api.Hunk{{New: []string{"\na"}}}, 0},
		"a text of 0A":                                     {[]api.Hunk{{Old: []string{"\n"}, New: of("a")}}, 0},
		"the last text of Old with 0A":                     {[]api.Hunk{{Old: zeroA("b"), New: of("a")}}, 0},
		"the last text of New with 0A":                     {[]api.Hunk{{Old: of("a"), New: zeroA("")}}, 0},
		"0A at the longest text's end":                     {[]api.Hunk{{New: []string{long(255) + "\n"}}}, 0},
		"0A in Old, behind one":                            {[]api.Hunk{at(0, "a", "b"), {At: 2, Old: zeroA(""), New: of("a")}}, 1},
		"0A in New, behind two":                            {[]api.Hunk{at(0, "a", "b"), at(2, "c", "d"), {At: 4, Old: of("a"), New: zeroA("")}, at(7, "", "x")}, 2},
		"too long a text in Old":                           {[]api.Hunk{{Old: []string{long(257)}}}, 0},
		"too long a text in New":                           {[]api.Hunk{{Old: of("a"), New: []string{"b", long(257)}}}, 0},
		"too long a text, behind one":                      {[]api.Hunk{at(0, "a", "b"), {At: 2, New: []string{long(1 << 16)}}}, 1},
		"too long a text by its bytes":                     {[]api.Hunk{{New: []string{strings.Repeat("é", 129)}}}, 0},
		"two faults":                                       {[]api.Hunk{at(0, "a", ""), at(2, "", ""), at(-1, "a", "")}, 1},
		"two faults, the place the later one":              {[]api.Hunk{{Old: zeroA("")}, at(0, "a", "")}, 0},
		"the last of many":                                 {append(many(3000), at(5999, "", "x")), 3000},
		"one amid many":                                    {slices.Insert(many(3000), 1500, at(2999, "", "x")), 1500},
	}
}

// tinyHunks are hunks of all kinds, with at most two old texts and two new ones, at each place from -1 to the last one.
func tinyHunks(last int) []api.Hunk {
	var l []api.Hunk
	for place := -1; place <= last; place++ {
		for _, old := range []string{"", "a", "b", "a b", "b b"} {
			for _, new := range []string{"", "a", "x y"} {
				l = append(l, at(place, old, new))
			}
		}
	}
	return l
}

// tiny goes over all lists of at most two such hunks.
func tiny(last int, each func([]api.Hunk)) {
	each(nil)
	for _, h := range tinyHunks(last) {
		each([]api.Hunk{h})
		for _, other := range tinyHunks(last) {
			each([]api.Hunk{h, other})
		}
	}
}

// tinyTexts are all lists of at most so many texts a and b.
func tinyTexts(count int) [][]string {
	every := [][]string{nil}
	for i := 0; i < len(every); i++ {
		if len(every[i]) < count {
			every = append(every, append(slices.Clone(every[i]), "a"), append(slices.Clone(every[i]), "b"))
		}
	}
	return every
}

// patch is one that fits numbered texts, and hangs on the seed alone.
func patch(seed int, texts []string) []api.Hunk {
	next := func(count int) int {
		seed = (seed*1103515245 + 12345) % (1 << 31)
		return seed >> 16 % count
	}
	var p []api.Hunk
	for place := next(4); place <= len(texts); {
		end := min(place+next(4), len(texts))
		h := api.Hunk{At: place, Old: texts[place:end], New: numbered(fmt.Sprintf("new%d.", place), next(4))}
		if len(h.Old)+len(h.New) > 0 {
			p = append(p, h)
		}
		place = end + 1 + next(5)
	}
	return p
}

// fitting goes over patches with texts that they fit.
func fitting(each func(name string, p []api.Hunk, texts []string)) {
	each("no hunks", nil, of("a b"))
	each("no hunks, no texts", nil, nil)
	each("all of it", []api.Hunk{at(0, "a b", "c d e")}, of("a b"))
	each("nothing left", []api.Hunk{at(0, "a b", "")}, of("a b"))
	each("out of nothing", []api.Hunk{at(0, "", "a b")}, nil)
	each("at both ends", []api.Hunk{at(0, "", "p"), at(4, "", "q")}, of("a b c d"))
	each("what is no line's stays", []api.Hunk{at(1, "b", "c")}, []string{"\n", "b", long(999)})
	each("many", many(1000), numbered("t", 2000))
	for seed := range 200 {
		texts := numbered("t", seed/4)
		each(fmt.Sprintf("some, by %d", seed), patch(seed, texts), texts)
	}
	all := tinyTexts(4)
	tiny(4, func(p []api.Hunk) {
		for _, texts := range all {
			if _, e := fault(p, texts); e == api.OK {
				each("tiny", p, texts)
			}
		}
	})
}

// isPatch tells by the words whether hunks are a patch.
func isPatch(p []api.Hunk) bool {
	for _, h := range p {
		if h.At < 0 || h.At > 2147483647 || len(h.Old)+len(h.New) == 0 {
			return false
		}
		for _, s := range slices.Concat(h.Old, h.New) {
			if len(s) > 256 || strings.Count(s, "\x0a") > 0 {
				return false
			}
		}
	}
	for i := 1; i < len(p); i++ {
		if !(p[i].At > p[i-1].At+len(p[i-1].Old)) {
			return false
		}
	}
	return true
}

// noPatchUpTo is by the words the first place up to which hunks are no patch; 0 and OK, if they are one.
func noPatchUpTo(p []api.Hunk) (int, api.Errno) {
	if isPatch(p) {
		return 0, api.OK
	}
	for i := range p {
		if !isPatch(p[:i+1]) {
			return i, api.ErrHunks
		}
	}
	panic("no place")
}

// fault is by the words what does not fit, and where.
func fault(p []api.Hunk, texts []string) (int, api.Errno) {
	if place, e := noPatchUpTo(p); e != api.OK {
		return place, e
	}
	for i, h := range p {
		if h.At+len(h.Old) > len(texts) {
			return i, api.ErrRange
		}
		for k, s := range h.Old {
			if texts[h.At+k] != s {
				return i, api.ErrText
			}
		}
	}
	return 0, api.OK
}

// applied is by the words what comes of texts that a patch fits: hunk by hunk, from the last one on.
func applied(texts []string, p []api.Hunk) []string {
	for _, h := range slices.Backward(p) {
		texts = slices.Concat(texts[:h.At], h.New, texts[h.At+len(h.Old):])
	}
	return slices.Clone(texts)
}

// inverted are by the words the hunks of a patch with Old and New changed about, wherever they come to stand.
func inverted(p []api.Hunk) []api.Hunk {
	var l []api.Hunk
	for i, h := range p {
		place := h.At
		for _, ahead := range p[:i] {
			place += len(ahead.New)
			place -= len(ahead.Old)
		}
		l = append(l, api.Hunk{At: place, Old: h.New, New: h.Old})
	}
	return l
}

// comes is by the words what is answered where a patch is applied.
func comes(texts []string, p []api.Hunk) ([]string, api.Errno) {
	if _, e := fault(p, texts); e != api.OK {
		return nil, e
	}
	return applied(texts, p), api.OK
}

// inverse is by the words what is answered where a patch is inverted.
func inverse(p []api.Hunk) ([]api.Hunk, api.Errno) {
	if !isPatch(p) || !isPatch(inverted(p)) {
		return nil, api.ErrHunks
	}
	return inverted(p), api.OK
}

// counts are by the words how many texts all Old have, and all New.
func counts(p []api.Hunk) (removed, added int) {
	for _, h := range p {
		removed, added = removed+len(h.Old), added+len(h.New)
	}
	return removed, added
}

// stands is by the words which of so many lines stand in an Old.
func stands(p []api.Hunk, n int) []bool {
	row := make([]bool, n)
	for i := range row {
		row[i] = slices.ContainsFunc(p, func(h api.Hunk) bool { return h.At <= i && i < h.At+len(h.Old) })
	}
	return row
}

// shown is how a list begins.
func shown[T any](l []T) string {
	s := fmt.Sprintf("%q", fmt.Sprint(l[:min(len(l), 50)]))
	return fmt.Sprintf("%d of %s", len(l), s[:min(len(s), 400)])
}

// like tells whether hunks are the same, field by field.
func like(a, b []api.Hunk) bool {
	if len(a) != len(b) {
		return false
	}
	for i := range a {
		if a[i].At != b[i].At || !slices.Equal(a[i].Old, b[i].Old) || !slices.Equal(a[i].New, b[i].New) {
			return false
		}
	}
	return true
}

// same tells a fault, unless two lists are the same.
func same[T comparable](t *testing.T, name string, got, want []T) {
	t.Helper()
	if !slices.Equal(got, want) {
		t.Fatalf("%s: %s, want %s", name, shown(got), shown(want))
	}
}

// sameHunks tells a fault, unless two lists of hunks are the same.
func sameHunks(t *testing.T, name string, got, want []api.Hunk) {
	t.Helper()
	if !like(got, want) {
		t.Fatalf("%s: %s, want %s", name, shown(got), shown(want))
	}
}

// checks tells a fault, unless Check answers so.
func checks(t *testing.T, name string, p []api.Hunk, place int, e api.Errno) {
	t.Helper()
	if gotPlace, got := hunk.Check(p); gotPlace != place || got != e {
		t.Fatalf("%s: Check(%s): %d, %d, want %d, %d", name, shown(p), gotPlace, got, place, e)
	}
}

// fits tells a fault, unless Fits answers so.
func fits(t *testing.T, name string, p []api.Hunk, texts []string, place int, e api.Errno) {
	t.Helper()
	if gotPlace, got := hunk.Fits(p, texts); gotPlace != place || got != e {
		t.Fatalf("%s: Fits(%s, %s): %d, %d, want %d, %d", name, shown(p), shown(texts), gotPlace, got, place, e)
	}
}

// applies tells a fault, unless Apply answers so.
func applies(t *testing.T, name string, texts []string, p []api.Hunk, want []string, e api.Errno) {
	t.Helper()
	got, gotE := hunk.Apply(texts, p)
	if gotE != e || !slices.Equal(got, want) {
		t.Fatalf("%s: Apply(%s, %s): %s, %d, want %s, %d", name, shown(texts), shown(p), shown(got), gotE, shown(want), e)
	}
}

// undoes tells a fault, unless Undo answers so.
func undoes(t *testing.T, name string, texts []string, p []api.Hunk, want []string, e api.Errno) {
	t.Helper()
	got, gotE := hunk.Undo(texts, p)
	if gotE != e || !slices.Equal(got, want) {
		t.Fatalf("%s: Undo(%s, %s): %s, %d, want %s, %d", name, shown(texts), shown(p), shown(got), gotE, shown(want), e)
	}
}

// inverts tells a fault, unless Invert answers so.
func inverts(t *testing.T, name string, p, want []api.Hunk, e api.Errno) {
	t.Helper()
	if got, gotE := hunk.Invert(p); gotE != e || !like(got, want) {
		t.Fatalf("%s: Invert(%s): %s, %d, want %s, %d", name, shown(p), shown(got), gotE, shown(want), e)
	}
}

// hasSizes tells a fault, unless Sizes answers so.
func hasSizes(t *testing.T, name string, p []api.Hunk, removed, added int, e api.Errno) {
	t.Helper()
	if gotRemoved, gotAdded, got := hunk.Sizes(p); gotRemoved != removed || gotAdded != added || got != e {
		t.Fatalf("%s: Sizes(%s): %d, %d, %d, want %d, %d, %d", name, shown(p), gotRemoved, gotAdded, got, removed, added, e)
	}
}

// touches tells a fault, unless Touch answers so.
func touches(t *testing.T, h api.Hunk, changed, removed, added int) {
	t.Helper()
	if gotChanged, gotRemoved, gotAdded := hunk.Touch(h); gotChanged != changed || gotRemoved != removed || gotAdded != added {
		t.Fatalf("Touch(%s): %d, %d, %d, want %d, %d, %d", shown([]api.Hunk{h}), gotChanged, gotRemoved, gotAdded, changed, removed, added)
	}
}

// touched tells a fault, unless Touched answers so.
func touched(t *testing.T, name string, p []api.Hunk, n int, want []bool, e api.Errno) {
	t.Helper()
	if got, gotE := hunk.Touched(p, n); gotE != e || !slices.Equal(got, want) {
		t.Fatalf("%s: Touched(%s, %d): %s, %d, want %s, %d", name, shown(p), n, shown(got), gotE, shown(want), e)
	}
}

// The chapter's own examples.

func TestTheChaptersExamples(t *testing.T) {
	texts := of("a b c d")
	one, two := []api.Hunk{at(1, "b", "x y")}, []api.Hunk{at(0, "", "p"), at(2, "c d", "")}
	applies(t, "1", texts, one, of("a x y c d"), api.OK)
	inverts(t, "1", one, []api.Hunk{at(1, "x y", "b")}, api.OK)
	applies(t, "1", texts, two, of("p a b"), api.OK)
	inverts(t, "1", two, []api.Hunk{at(0, "p", ""), at(3, "", "c d")}, api.OK)
	fits(t, "2", []api.Hunk{at(3, "d c", "")}, texts, 0, api.ErrRange)
	fits(t, "2", []api.Hunk{at(1, "c", "")}, texts, 0, api.ErrText)
	fits(t, "2", []api.Hunk{at(4, "", "e")}, texts, 0, api.OK)
	fits(t, "2", []api.Hunk{at(5, "", "e")}, texts, 0, api.ErrRange)
	checks(t, "3", []api.Hunk{at(1, "b", "c"), at(2, "", "x")}, 1, api.ErrHunks)
	checks(t, "3", []api.Hunk{at(0, "", "")}, 0, api.ErrHunks)
	checks(t, "3", []api.Hunk{at(-1, "a", "")}, 0, api.ErrHunks)
	checks(t, "3", []api.Hunk{{Old: []string{"a\x0a"}}}, 0, api.ErrHunks)
	touches(t, at(0, "a b", "x"), 1, 1, 0)
	hasSizes(t, "3", two, 2, 1, api.OK)
}

// P8.1

func TestCheckTellsWhetherHunksAreAPatch(t *testing.T) {
	for name, p := range patches() {
		checks(t, name, p, 0, api.OK)
	}
	for name, f := range noPatches() {
		checks(t, name, f.p, f.place, api.ErrHunks)
	}
}

func TestCheckTellsWhatTheWordsSay(t *testing.T) {
	each := func(p []api.Hunk) {
		place, e := noPatchUpTo(p)
		checks(t, "tiny", p, place, e)
	}
	tiny(4, each)
	tiny(1, func(p []api.Hunk) {
		for _, h := range []api.Hunk{at(4, "a", "b"), at(3, "", "x"), at(2, "a b", ""), at(6, "", "")} {
			each(append(slices.Clone(p), h))
			each(append([]api.Hunk{h}, p...))
		}
	})
}

func TestTheHunksBehindTheFirstFaultAreNotAsked(t *testing.T) {
	for name, f := range noPatches() {
		for other, p := range patches() {
			checks(t, name+", and behind it "+other, slices.Concat(f.p[:f.place+1], p), f.place, api.ErrHunks)
		}
		checks(t, name+", and behind it faults", append(slices.Clone(f.p), at(-1, "", ""), at(math.MaxInt, "\n", "")), f.place, api.ErrHunks)
		if f.place > 0 {
			checks(t, name+", without it", f.p[:f.place], 0, api.OK)
		}
	}
}

func TestFitsTellsWhatTheWordsSay(t *testing.T) {
	all := tinyTexts(4)
	tiny(4, func(p []api.Hunk) {
		for _, texts := range all {
			place, e := fault(p, texts)
			fits(t, "tiny", p, texts, place, e)
		}
	})
}

func TestFitsTellsTheFirstHunkThatDoesNot(t *testing.T) {
	texts := of("a b c d e f g")
	good, late := at(0, "a", "x"), at(6, "g", "z")
	for name, f := range map[string]struct {
		p     []api.Hunk
		place int
		e     api.Errno
	}{
		"no hunks":                         {nil, 0, api.OK},
		"all that there is":                {[]api.Hunk{at(0, "a b c d e f g", "")}, 0, api.OK},
		"three":                            {[]api.Hunk{good, at(3, "d", ""), late}, 0, api.OK},
		"at the end":                       {[]api.Hunk{good, at(7, "", "x")}, 0, api.OK},
		"up to the end":                    {[]api.Hunk{at(5, "f g", "x")}, 0, api.OK},
		"past the end":                     {[]api.Hunk{at(8, "", "x")}, 0, api.ErrRange},
		"past the end by its texts":        {[]api.Hunk{at(6, "g h", "x")}, 0, api.ErrRange},
		"past the end, the second":         {[]api.Hunk{good, at(7, "h", "x")}, 1, api.ErrRange},
		"past the end, the third":          {[]api.Hunk{good, at(3, "d", "x"), at(9, "", "x")}, 2, api.ErrRange},
		"at the greatest place":            {[]api.Hunk{at(greatest, "", "x")}, 0, api.ErrRange},
		"from the greatest place on":       {[]api.Hunk{good, at(greatest, "a b", "x")}, 1, api.ErrRange},
		"all of it and more":               {[]api.Hunk{at(0, "a b c d e f g h", "")}, 0, api.ErrRange},
		"another text":                     {[]api.Hunk{at(2, "d", "c")}, 0, api.ErrText},
		"another text, the last one":       {[]api.Hunk{at(2, "c d f", "c")}, 0, api.ErrText},
		"another text, the second":         {[]api.Hunk{good, at(2, "x", "c"), late}, 1, api.ErrText},
		"another text, the third":          {[]api.Hunk{good, at(2, "c", "c"), at(6, "G", "")}, 2, api.ErrText},
		"of one hunk the place first":      {[]api.Hunk{at(6, "x y", "z")}, 0, api.ErrRange},
		"of two hunks the first, its text": {[]api.Hunk{at(0, "x", "z"), at(9, "", "z")}, 0, api.ErrText},
		"of two hunks the first, texts":    {[]api.Hunk{at(0, "x", "z"), at(2, "x", "z")}, 0, api.ErrText},
		"of two hunks the first, places":   {[]api.Hunk{at(8, "", "z"), at(10, "x", "z")}, 0, api.ErrRange},
		"of three hunks the second":        {[]api.Hunk{good, at(2, "x", "z"), at(9, "", "z")}, 1, api.ErrText},
		"what New says is not asked":       {[]api.Hunk{at(0, "a", "b"), at(2, "c", "a b c d e f g h i")}, 0, api.OK},
		"no patch, though one fits not":    {[]api.Hunk{at(0, "x", "z"), at(9, "", "z"), at(9, "", "z")}, 2, api.ErrHunks},
		"no patch, at the beginning":       {[]api.Hunk{at(-1, "a", "z"), at(9, "", "z")}, 0, api.ErrHunks},
	} {
		fits(t, name, f.p, texts, f.place, f.e)
		want, e := comes(texts, f.p)
		if e != f.e {
			t.Fatalf("%s: by the words %d, want %d", name, e, f.e)
		}
		applies(t, name, texts, f.p, want, e)
	}
}

func TestFitsTellsWhatCheckTells(t *testing.T) {
	for name, f := range noPatches() {
		for _, texts := range [][]string{nil, of("a b c d"), numbered("t", 6001)} {
			fits(t, name, f.p, texts, f.place, api.ErrHunks)
		}
	}
}

func TestNothingButPlacesStandsInNoTexts(t *testing.T) {
	for _, texts := range [][]string{nil, {}} {
		fits(t, "no hunks", nil, texts, 0, api.OK)
		fits(t, "added", []api.Hunk{at(0, "", "x")}, texts, 0, api.OK)
		fits(t, "added one on", []api.Hunk{at(1, "", "x")}, texts, 0, api.ErrRange)
		fits(t, "added twice", []api.Hunk{at(0, "", "x"), at(1, "", "x")}, texts, 1, api.ErrRange)
		fits(t, "removed", []api.Hunk{at(0, "a", "")}, texts, 0, api.ErrRange)
		fits(t, "an empty text", []api.Hunk{{Old: []string{""}}}, texts, 0, api.ErrRange)
	}
}

func TestTextsAreTheSameByteByByte(t *testing.T) {
	texts := []string{"", "a ", "A", "\xff", "e\u0301"}
	for place, other := range []string{" ", "a", "a", "\ufffd", "\u00e9"} {
		fits(t, "another one", []api.Hunk{{At: place, Old: []string{other}}}, texts, 0, api.ErrText)
		fits(t, "the same", []api.Hunk{{At: place, Old: []string{texts[place]}}}, texts, 0, api.OK)
	}
	fits(t, "in one", []api.Hunk{{Old: []string{"a b"}}}, of("a b"), 0, api.ErrText)
}

// P8.2

func TestApplyPutsNewInThePlaceOfOld(t *testing.T) {
	texts := of("a b c d e")
	for want, p := range map[string][]api.Hunk{
		"a b c d e":             nil,
		"p a b c d e":           {at(0, "", "p")},
		"p q a b c d e":         {at(0, "", "p q")},
		"a b p c d e":           {at(2, "", "p")},
		"a b c d e p q r":       {at(5, "", "p q r")},
		"b c d e":               {at(0, "a", "")},
		"a e":                   {at(1, "b c d", "")},
		"a b c d":               {at(4, "e", "")},
		"":                      {at(0, "a b c d e", "")},
		"e d c b a":             {at(0, "a b c d e", "e d c b a")},
		"a c b d e":             {at(1, "b c", "c b")},
		"A b C d E":             {at(0, "a", "A"), at(2, "c", "C"), at(4, "e", "E")},
		"p a q b r c s d t e u": {at(0, "", "p"), at(1, "", "q"), at(2, "", "r"), at(3, "", "s"), at(4, "", "t"), at(5, "", "u")},
		"b d":                   {at(0, "a", ""), at(2, "c", ""), at(4, "e", "")},
		"x b c y z e":           {at(0, "a", "x"), at(3, "d", "y z")},
		"x c d y":               {at(0, "a b", "x"), at(4, "e", "y")},
		"c x y z e":             {at(0, "a b", ""), at(3, "d", "x y z")},
		"x y c d":               {at(0, "a b", "x y"), at(4, "e", "")},
	} {
		applies(t, want, texts, p, of(want), api.OK)
	}
}

func TestWhatComesOfTextsIsWhatTheWordsSay(t *testing.T) {
	fitting(func(name string, p []api.Hunk, texts []string) {
		applies(t, name, texts, p, applied(texts, p), api.OK)
	})
}

func TestApplyAnswersWhatFitsTells(t *testing.T) {
	all := tinyTexts(3)
	tiny(4, func(p []api.Hunk) {
		for _, texts := range all {
			if _, e := fault(p, texts); e != api.OK {
				applies(t, "tiny", texts, p, nil, e)
			}
		}
	})
	for name, f := range noPatches() {
		applies(t, name, of("a b c d"), f.p, nil, api.ErrHunks)
		applies(t, name, nil, f.p, nil, api.ErrHunks)
	}
	for name, p := range patches() {
		want, e := comes(of("b b"), p)
		applies(t, name, of("b b"), p, want, e)
	}
}

func TestInvertTurnsOldAndNewAbout(t *testing.T) {
	for name, p := range patches() {
		want, e := inverse(p)
		inverts(t, name, p, want, e)
	}
	inverts(t, "of all kinds",
		[]api.Hunk{at(0, "a b", "x"), at(3, "", "y"), at(4, "e", "v w"), at(6, "g", "")},
		[]api.Hunk{at(0, "x", "a b"), at(2, "y", ""), at(4, "v w", "e"), at(7, "", "g")}, api.OK)
	inverts(t, "nothing left between",
		[]api.Hunk{at(0, "a b", ""), at(3, "c d", ""), at(6, "e", "")},
		[]api.Hunk{at(0, "", "a b"), at(1, "", "c d"), at(2, "", "e")}, api.OK)
	tiny(4, func(p []api.Hunk) {
		want, e := inverse(p)
		inverts(t, "tiny", p, want, e)
	})
}

func TestInvertRefusesWhatIsNoPatch(t *testing.T) {
	for name, f := range noPatches() {
		inverts(t, name, f.p, nil, api.ErrHunks)
	}
}

func TestInvertRefusesWhatWouldComeOutAsNoPatch(t *testing.T) {
	inverts(t, "up to the greatest place", []api.Hunk{at(0, "", "p"), at(greatest-1, "a", "")}, []api.Hunk{at(0, "p", ""), at(greatest, "", "a")}, api.OK)
	inverts(t, "more in one, less in one", []api.Hunk{at(0, "", "p q"), at(3, "a b", ""), at(greatest, "c", "")}, []api.Hunk{at(0, "p q", ""), at(5, "", "a b"), at(greatest, "", "c")}, api.OK)
	inverts(t, "the greatest place itself", []api.Hunk{at(greatest, "", "p q r")}, []api.Hunk{at(greatest, "p q r", "")}, api.OK)
	inverts(t, "less ahead of the greatest", []api.Hunk{at(0, "a b", "p"), at(greatest, "c", "")}, []api.Hunk{at(0, "p", "a b"), at(greatest-1, "", "c")}, api.OK)
	for name, p := range map[string][]api.Hunk{
		"one past it":                    {at(0, "", "p"), at(greatest, "a", "")},
		"one past it, added":             {at(0, "a", "p q"), at(greatest, "", "b")},
		"some past it":                   {at(0, "", "p q r s"), at(greatest-3, "a", "")},
		"one past it, by two":            {at(0, "", "p"), at(2, "a", "b c"), at(greatest-1, "a", "x")},
		"two past it, of three":          {at(0, "", "p q r"), at(greatest-2, "a", ""), at(greatest, "", "x")},
		"one past it, the last of three": {at(5, "", "p"), at(greatest-2, "", "q"), at(greatest-1, "", "x")},
	} {
		checks(t, name, p, 0, api.OK)
		inverts(t, name, p, nil, api.ErrHunks)
		undoes(t, name, of("p"), p, nil, api.ErrHunks)
		undoes(t, name, nil, p, nil, api.ErrHunks)
		applies(t, name, nil, p, nil, api.ErrRange)
		hasSizes(t, name+", inverted", inverted(p), 0, 0, api.ErrHunks)
		removed, added := counts(p)
		hasSizes(t, name, p, removed, added, api.OK)
	}
}

func TestUndoAppliesTheInverse(t *testing.T) {
	undoes(t, "one", of("a x y c d"), []api.Hunk{at(1, "b", "x y")}, of("a b c d"), api.OK)
	undoes(t, "two", of("p a b"), []api.Hunk{at(0, "", "p"), at(2, "c d", "")}, of("a b c d"), api.OK)
	undoes(t, "none", of("a b"), nil, of("a b"), api.OK)
	undoes(t, "the other way fits not", of("a b c d"), []api.Hunk{at(1, "b", "x")}, nil, api.ErrText)
	undoes(t, "both fit", of("a"), []api.Hunk{at(0, "a", "a")}, of("a"), api.OK)
	undoes(t, "past the end", of("a x"), []api.Hunk{at(1, "b", "x y")}, nil, api.ErrRange)
	undoes(t, "the place first", of("a"), []api.Hunk{at(0, "b", "x y")}, nil, api.ErrRange)
	undoes(t, "the first hunk first, its text", of("p"), []api.Hunk{at(0, "", "q"), at(9, "a", "")}, nil, api.ErrText)
	undoes(t, "the first hunk first, its place", of("p"), []api.Hunk{at(1, "", "q"), at(9, "a", "")}, nil, api.ErrRange)
	undoes(t, "a place that fits by what is ahead alone", of("p q a"), []api.Hunk{at(0, "", "p q"), at(1, "b", "")}, of("a b"), api.OK)
	undoes(t, "a place that fits not by what is ahead", of("a"), []api.Hunk{at(0, "", "a"), at(1, "b", "")}, nil, api.ErrRange)
	for name, f := range noPatches() {
		undoes(t, name, of("a b c d"), f.p, nil, api.ErrHunks)
	}
	all := tinyTexts(3)
	tiny(3, func(p []api.Hunk) {
		for _, texts := range all {
			back, e := inverse(p)
			var want []string
			if e == api.OK {
				want, e = comes(texts, back)
			}
			undoes(t, "tiny", texts, p, want, e)
		}
	})
}

// P8.3

func TestSizesCountsTheTexts(t *testing.T) {
	hasSizes(t, "none", nil, 0, 0, api.OK)
	hasSizes(t, "an empty list", []api.Hunk{}, 0, 0, api.OK)
	hasSizes(t, "one", []api.Hunk{at(4, "a b c", "d")}, 3, 1, api.OK)
	hasSizes(t, "added", []api.Hunk{at(greatest, "", "d e")}, 0, 2, api.OK)
	hasSizes(t, "removed", []api.Hunk{at(greatest, "a b", "")}, 2, 0, api.OK)
	hasSizes(t, "three", []api.Hunk{at(0, "a", ""), at(2, "", "b c"), at(9, "d e", "f g h")}, 3, 5, api.OK)
	hasSizes(t, "many", many(3000), 3000, 6000, api.OK)
	hasSizes(t, "empty texts", []api.Hunk{{Old: []string{"", ""}, New: []string{"", "", ""}}}, 2, 3, api.OK)
	for name, p := range patches() {
		removed, added := counts(p)
		hasSizes(t, name, p, removed, added, api.OK)
	}
	for name, f := range noPatches() {
		hasSizes(t, name, f.p, 0, 0, api.ErrHunks)
	}
	hasSizes(t, "no patch at the end alone", []api.Hunk{at(0, "a b", "c"), at(3, "c", "d"), at(4, "e", "f")}, 0, 0, api.ErrHunks)
}

func TestTouchOfAnyHunk(t *testing.T) {
	touches(t, api.Hunk{}, 0, 0, 0)
	touches(t, api.Hunk{Old: []string{}, New: []string{}}, 0, 0, 0)
	touches(t, at(0, "a", ""), 0, 1, 0)
	touches(t, at(0, "", "a"), 0, 0, 1)
	touches(t, at(0, "a", "a"), 1, 0, 0)
	touches(t, at(7, "a b c", "x y z"), 3, 0, 0)
	touches(t, at(7, "a b c", "x"), 1, 2, 0)
	touches(t, at(7, "a", "x y z w"), 1, 0, 3)
	touches(t, at(-1, "a b", ""), 0, 2, 0)
	touches(t, at(math.MinInt, "a b", "x"), 1, 1, 0)
	touches(t, at(math.MaxInt, "a", "x y"), 1, 0, 1)
	touches(t, api.Hunk{At: 1, Old: []string{"\n", long(999)}, New: []string{"\n\n"}}, 1, 1, 0)
	touches(t, api.Hunk{Old: numbered("o", 5000), New: numbered("n", 3000)}, 3000, 2000, 0)
}

func TestTouchedTellsWhatStandsInAnOld(t *testing.T) {
	row := func(s string) (l []bool) {
		for _, r := range s {
			l = append(l, r == 'x')
		}
		return l
	}
	touched(t, "none", nil, 0, nil, api.OK)
	touched(t, "none of some", nil, 3, row("..."), api.OK)
	touched(t, "one changed", []api.Hunk{at(1, "b", "x y")}, 4, row(".x.."), api.OK)
	touched(t, "some removed", []api.Hunk{at(1, "b c", "")}, 4, row(".xx."), api.OK)
	touched(t, "only added", []api.Hunk{at(0, "", "p"), at(2, "", "q r s"), at(4, "", "t")}, 4, row("...."), api.OK)
	touched(t, "added to none", []api.Hunk{at(0, "", "p")}, 0, nil, api.OK)
	touched(t, "all", []api.Hunk{at(0, "a b c d", "")}, 4, row("xxxx"), api.OK)
	touched(t, "three", []api.Hunk{at(0, "a", ""), at(2, "c d", "C"), at(6, "g", "g")}, 8, row("x.xx..x."), api.OK)
	touched(t, "texts that do not fit are not asked", []api.Hunk{at(0, "z", ""), at(2, "y", "C")}, 3, row("x.x"), api.OK)
}

func TestTouchedRefusesWhatStandsPastTheEnd(t *testing.T) {
	touched(t, "at the end", []api.Hunk{at(3, "", "p")}, 3, make([]bool, 3), api.OK)
	touched(t, "past it", []api.Hunk{at(4, "", "p")}, 3, nil, api.ErrRange)
	touched(t, "past it by its texts", []api.Hunk{at(2, "c d", "p")}, 3, nil, api.ErrRange)
	touched(t, "the second one", []api.Hunk{at(0, "a", "b"), at(3, "d", "")}, 3, nil, api.ErrRange)
	touched(t, "at the greatest place", []api.Hunk{at(greatest, "d", "")}, 3, nil, api.ErrRange)
	touched(t, "some of none", []api.Hunk{at(0, "a", "")}, 0, nil, api.ErrRange)
	touched(t, "added past none", []api.Hunk{at(1, "", "a")}, 0, nil, api.ErrRange)
}

func TestTouchedOfTheMostLines(t *testing.T) {
	row := make([]bool, most)
	touched(t, "none", nil, most, row, api.OK)
	touched(t, "at the end", []api.Hunk{at(most, "", "p")}, most, row, api.OK)
	touched(t, "past it", []api.Hunk{at(most, "a", "p")}, most, nil, api.ErrRange)
	touched(t, "past it by one", []api.Hunk{at(most+1, "", "p")}, most, nil, api.ErrRange)
	row[0], row[most-2], row[most-1] = true, true, true
	touched(t, "first and last ones", []api.Hunk{at(0, "a", ""), at(most-2, "y z", "p")}, most, row, api.OK)
}

func TestTouchedRefusesOtherNumbersOfLines(t *testing.T) {
	for _, n := range []int{-1, math.MinInt, most + 1, 1 << 31, math.MaxInt} {
		touched(t, "no hunks", nil, n, nil, api.ErrHunks)
		touched(t, "one", []api.Hunk{at(0, "", "a")}, n, nil, api.ErrHunks)
		touched(t, "one that stands past it", []api.Hunk{at(greatest, "a", "")}, n, nil, api.ErrHunks)
		touched(t, "no patch", []api.Hunk{at(-1, "a", "")}, n, nil, api.ErrHunks)
	}
	for name, f := range noPatches() {
		for _, n := range []int{0, 4, most} {
			touched(t, name, f.p, n, nil, api.ErrHunks)
		}
	}
	touched(t, "past the end, and then no patch", []api.Hunk{at(9, "a", ""), at(9, "a", "")}, 3, nil, api.ErrHunks)
}

func TestTouchedTellsWhatTheWordsSay(t *testing.T) {
	tiny(4, func(p []api.Hunk) {
		for n := range 5 {
			_, e := noPatchUpTo(p)
			if e == api.OK && slices.ContainsFunc(p, func(h api.Hunk) bool { return h.At+len(h.Old) > n }) {
				e = api.ErrRange
			}
			var want []bool
			if e == api.OK {
				want = stands(p, n)
			}
			touched(t, "tiny", p, n, want, e)
		}
	})
}

func TestSameComparesFieldByField(t *testing.T) {
	hunks := []api.Hunk{at(1, "a b", "x"), at(5, "", "y z"), at(7, "c", "")}
	copied := func() []api.Hunk {
		l := slices.Clone(hunks)
		for i := range l {
			l[i].Old, l[i].New = slices.Clone(l[i].Old), slices.Clone(l[i].New)
		}
		return l
	}
	if !hunk.Same(hunks, hunks) || !hunk.Same(hunks, copied()) {
		t.Error("the same are not the same")
	}
	for name, change := range map[string]func([]api.Hunk) []api.Hunk{
		"a place":               func(l []api.Hunk) []api.Hunk { l[2].At++; return l },
		"the first place":       func(l []api.Hunk) []api.Hunk { l[0].At = 0; return l },
		"an old text":           func(l []api.Hunk) []api.Hunk { l[0].Old[1] = "B"; return l },
		"a new text":            func(l []api.Hunk) []api.Hunk { l[1].New[0] = "Y"; return l },
		"an old text more":      func(l []api.Hunk) []api.Hunk { l[0].Old = of("a b c"); return l },
		"an old text less":      func(l []api.Hunk) []api.Hunk { l[0].Old = of("a"); return l },
		"a new text more":       func(l []api.Hunk) []api.Hunk { l[2].New = of("a"); return l },
		"a new text less":       func(l []api.Hunk) []api.Hunk { l[1].New = of("y"); return l },
		"an empty text":         func(l []api.Hunk) []api.Hunk { l[1].Old = []string{""}; return l },
		"texts exchanged":       func(l []api.Hunk) []api.Hunk { l[1].New = of("z y"); return l },
		"texts in one":          func(l []api.Hunk) []api.Hunk { l[1].New = []string{"yz"}; return l },
		"Old and New":           func(l []api.Hunk) []api.Hunk { l[0].Old, l[0].New = l[0].New, l[0].Old; return l },
		"a hunk more":           func(l []api.Hunk) []api.Hunk { return append(l, at(9, "", "q")) },
		"an empty hunk more":    func(l []api.Hunk) []api.Hunk { return append(l, api.Hunk{}) },
		"a hunk less":           func(l []api.Hunk) []api.Hunk { return l[:2] },
		"the first one less":    func(l []api.Hunk) []api.Hunk { return l[1:] },
		"none left":             func([]api.Hunk) []api.Hunk { return nil },
		"hunks exchanged":       func(l []api.Hunk) []api.Hunk { l[0], l[1] = l[1], l[0]; return l },
		"a text to another one": func(l []api.Hunk) []api.Hunk { l[0].Old, l[0].New = of("a"), of("b x"); return l },
	} {
		if other := change(copied()); hunk.Same(hunks, other) || hunk.Same(other, hunks) {
			t.Errorf("the same, but for %s", name)
		}
	}
}

func TestSameOfAnyHunks(t *testing.T) {
	lists := [][]api.Hunk{nil}
	for _, p := range patches() {
		lists = append(lists, p)
	}
	for _, f := range noPatches() {
		lists = append(lists, f.p)
	}
	for _, h := range tinyHunks(2) {
		lists = append(lists, []api.Hunk{h})
	}
	for _, a := range lists {
		for _, b := range lists {
			if got := hunk.Same(a, b); got != like(a, b) {
				t.Errorf("Same(%s, %s): %v", shown(a), shown(b), got)
			}
		}
	}
}

// P8.4

func TestAppliedAndUndoneLeadsBack(t *testing.T) {
	fitting(func(name string, p []api.Hunk, texts []string) {
		there, e := hunk.Apply(texts, p)
		if e != api.OK {
			t.Fatalf("%s: Apply(%s, %s): %d", name, shown(texts), shown(p), e)
		}
		back, e := hunk.Invert(p)
		if e != api.OK {
			t.Fatalf("%s: Invert(%s): %d", name, shown(p), e)
		}
		fits(t, name+", the inverse", back, there, 0, api.OK)
		applies(t, name+", the inverse", there, back, texts, api.OK)
		undoes(t, name, there, p, texts, api.OK)
		inverts(t, name+", the inverse", back, p, api.OK)
		if !hunk.Same(inverted(back), p) {
			t.Fatalf("%s: the inverse %s of %s inverted is another one", name, shown(back), shown(p))
		}
		undoes(t, name+", the inverse", texts, back, there, api.OK)
	})
}

func TestAnInverseInvertedIsThePatch(t *testing.T) {
	again := func(name string, p []api.Hunk) {
		back, e := hunk.Invert(p)
		if e != api.OK {
			return
		}
		checks(t, name+", the inverse", back, 0, api.OK)
		inverts(t, name+", the inverse", back, p, api.OK)
	}
	for name, p := range patches() {
		again(name, p)
	}
	tiny(4, func(p []api.Hunk) { again("tiny", p) })
}

func TestNoHunksFitAllTextsAndLeaveThem(t *testing.T) {
	for _, p := range [][]api.Hunk{nil, {}, many(2)[:0]} {
		for _, texts := range [][]string{nil, {}, of("a"), {"", ""}, {"\n", long(1 << 16), "\x00"}, numbered("t", 5000)} {
			fits(t, "no hunks", p, texts, 0, api.OK)
			applies(t, "no hunks", texts, p, texts, api.OK)
			undoes(t, "no hunks", texts, p, texts, api.OK)
			touched(t, "no hunks", p, len(texts), make([]bool, len(texts)), api.OK)
		}
		checks(t, "no hunks", p, 0, api.OK)
		inverts(t, "no hunks", p, nil, api.OK)
		hasSizes(t, "no hunks", p, 0, 0, api.OK)
	}
}

// P8.5

func TestWhatIsNotTouchedStaysInItsOrder(t *testing.T) {
	fitting(func(name string, p []api.Hunk, texts []string) {
		row, e := hunk.Touched(p, len(texts))
		if e != api.OK {
			t.Fatalf("%s: Touched(%s, %d): %d", name, shown(p), len(texts), e)
		}
		same(t, name+": Touched", row, stands(p, len(texts)))
		var stay []string
		for i, is := range row {
			if !is {
				stay = append(stay, texts[i])
			}
		}
		there, _ := hunk.Apply(texts, p)
		back, _ := hunk.Invert(p)
		new, e := hunk.Touched(back, len(there))
		if e != api.OK {
			t.Fatalf("%s: Touched(%s, %d): %d", name, shown(back), len(there), e)
		}
		var left []string
		for i, is := range new {
			if !is {
				left = append(left, there[i])
			}
		}
		same(t, name+": what is left of "+shown(texts)+" by "+shown(p), left, stay)
	})
}

func TestCountsAddUp(t *testing.T) {
	fitting(func(name string, p []api.Hunk, texts []string) {
		removed, added, e := hunk.Sizes(p)
		there, _ := hunk.Apply(texts, p)
		if e != api.OK || len(there) != len(texts)-removed+added {
			t.Fatalf("%s: Sizes(%s): %d, %d, %d; of %d texts come %d", name, shown(p), removed, added, e, len(texts), len(there))
		}
		row, _ := hunk.Touched(p, len(texts))
		count := 0
		for _, is := range row {
			if is {
				count++
			}
		}
		if count != removed {
			t.Fatalf("%s: of %s %d are removed, and %d touched", name, shown(p), removed, count)
		}
		back, _ := hunk.Invert(p)
		hasSizes(t, name+", the inverse", back, added, removed, api.OK)
		changes, goes, comes := 0, 0, 0
		for _, h := range p {
			changed, removed, added := hunk.Touch(h)
			changes, goes, comes = changes+changed, goes+removed, comes+added
		}
		if changes+goes != removed || changes+comes != added {
			t.Fatalf("%s: of %s %d are changed, %d removed, %d added; Sizes: %d, %d", name, shown(p), changes, goes, comes, removed, added)
		}
	})
}

func TestAHunksTouchIsItsTexts(t *testing.T) {
	hunks := tinyHunks(1)
	for _, p := range patches() {
		hunks = append(hunks, p...)
	}
	for _, f := range noPatches() {
		hunks = append(hunks, f.p...)
	}
	for _, h := range hunks {
		changed, removed, added := hunk.Touch(h)
		if changed+removed != len(h.Old) || changed+added != len(h.New) || min(removed, added) != 0 || min(changed, removed, added) < 0 {
			t.Errorf("Touch(%s): %d, %d, %d", shown([]api.Hunk{h}), changed, removed, added)
		}
	}
}

// R2

// asked is all that can be asked of hunks and texts, in one text.
func asked(p []api.Hunk, texts []string) string {
	place, e := hunk.Check(p)
	s := fmt.Sprint(place, int(e))
	place, e = hunk.Fits(p, texts)
	s += fmt.Sprint(" | ", place, int(e))
	there, e := hunk.Apply(texts, p)
	s += fmt.Sprintf(" | %q %d", there, int(e))
	there, e = hunk.Undo(texts, p)
	s += fmt.Sprintf(" | %q %d", there, int(e))
	back, e := hunk.Invert(p)
	s += fmt.Sprintf(" | %q %d", fmt.Sprint(back), int(e))
	removed, added, e := hunk.Sizes(p)
	s += fmt.Sprint(" | ", removed, added, int(e))
	row, e := hunk.Touched(p, len(texts))
	return s + fmt.Sprint(" | ", row, int(e))
}

func TestAskedAgainItIsAnsweredTheSame(t *testing.T) {
	texts := numbered("t", 20)
	first := map[string]string{}
	for name, p := range patches() {
		first[name] = asked(p, texts)
	}
	for _, f := range noPatches() {
		asked(f.p, of("a b"))
	}
	for name, p := range patches() {
		if got := asked(p, texts); got != first[name] {
			t.Errorf("%s: %.400s, ahead of it %.400s", name, got, first[name])
		}
	}
}

func TestManyThatAskAtATimeAreAnsweredTheSame(t *testing.T) {
	texts := numbered("t", 60)
	p := patch(7, texts)
	want := asked(p, texts)
	answers := make(chan string)
	for range 8 {
		go func() { answers <- asked(p, texts) }()
	}
	for range 8 {
		if got := <-answers; got != want {
			t.Errorf("%.400s, want %.400s", got, want)
		}
	}
}

// R3

// writeAll writes over a list and over the room behind its end.
func writeAll[T any](l []T, with T) {
	l = l[:cap(l)]
	for i := range l {
		l[i] = with
	}
}

// writeHunks writes over hunks, over their texts, and over the rooms behind their ends.
func writeHunks(p []api.Hunk) {
	for _, h := range p {
		writeAll(h.Old, "written")
		writeAll(h.New, "written")
	}
	writeAll(p, api.Hunk{At: -1, Old: []string{"written"}})
}

// roomy is a list that has room behind its end, in which others stand.
func roomy[T any](l []T, behind ...T) []T {
	return append(slices.Clone(l), behind...)[:len(l)]
}

// roomyHunks are hunks, and their texts, that have such room.
func roomyHunks(p []api.Hunk) []api.Hunk {
	l := roomy(p, at(-1, "no", "patch"), at(1, "", ""))
	for i, h := range l {
		l[i].Old, l[i].New = roomy(h.Old, "\n", "a", ""), roomy(h.New, "b", "\n", "behind")
	}
	return l
}

// whole is a list with all that stands in the room behind its end.
func whole[T any](l []T) []T { return slices.Clone(l[:cap(l)]) }

func TestWhatIsHandedInIsNotChangedAndNotReadBeyondItsEnd(t *testing.T) {
	fitting(func(name string, p []api.Hunk, texts []string) {
		if name == "tiny" && len(texts) > 3 {
			return
		}
		want := asked(p, texts)
		l, room := roomyHunks(p), roomy(texts, "a", "", "behind")
		wholeHunks, wholeTexts := whole(l), whole(room)
		var wholeLists [][]string
		for _, h := range wholeHunks {
			wholeLists = append(wholeLists, whole(h.Old), whole(h.New))
		}
		if got := asked(l, room); got != want {
			t.Fatalf("%s: with room behind: %.400s, want %.400s", name, got, want)
		}
		same(t, name+", the texts", whole(room), wholeTexts)
		sameHunks(t, name+", the hunks", whole(l), wholeHunks)
		for i, h := range whole(l) {
			same(t, name+", their Old", whole(h.Old), wholeLists[2*i])
			same(t, name+", their New", whole(h.New), wholeLists[2*i+1])
		}
	})
}

func TestTouchAndSameReadNothingBeyondTheEnd(t *testing.T) {
	h := roomyHunks([]api.Hunk{at(0, "a b", "x")})[0]
	touches(t, h, 1, 1, 0)
	p := []api.Hunk{at(0, "a b", "x"), at(5, "", "y")}
	if !hunk.Same(roomyHunks(p), p) || !hunk.Same(p, roomyHunks(p)) {
		t.Error("with room behind they are not the same")
	}
	if l := roomyHunks(p); !hunk.Same(l, slices.Clone(l)) || !like(l, p) {
		t.Error("Same changed hunks")
	}
}

func TestWhatIsHandedOutIsNew(t *testing.T) {
	fitting(func(name string, p []api.Hunk, texts []string) {
		if name == "tiny" && len(texts) > 3 {
			return
		}
		l, mine := roomyHunks(p), roomy(texts, "a", "b")
		there, _ := hunk.Apply(mine, l)
		other, _ := hunk.Apply(mine, l)
		writeAll(there, "written")
		same(t, name+", Apply: written into another answer", other, applied(texts, p))
		there, _ = hunk.Undo(other, l)
		again, _ := hunk.Undo(other, l)
		writeAll(there, "written")
		same(t, name+", Undo: written into another answer", again, texts)
		same(t, name+", Undo: written into an answer, what was handed in", other, applied(texts, p))
		row, _ := hunk.Touched(l, len(texts))
		rowAgain, _ := hunk.Touched(l, len(texts))
		writeAll(row, true)
		same(t, name+", Touched: written into another answer", rowAgain, stands(p, len(texts)))
		back, _ := hunk.Invert(l)
		backAgain, _ := hunk.Invert(l)
		writeHunks(back)
		sameHunks(t, name+", Invert: written into another answer", backAgain, inverted(p))
		sameHunks(t, name+", written into all answers: the hunks", l, p)
		sameHunks(t, name+", written into all answers: behind the hunks", whole(l)[len(l):][:2], []api.Hunk{at(-1, "no", "patch"), at(1, "", "")})
		same(t, name+", written into all answers: the texts", mine, texts)
		for _, h := range l {
			same(t, name+", written into all answers: behind Old", whole(h.Old)[len(h.Old):][:3], []string{"\n", "a", ""})
			same(t, name+", written into all answers: behind New", whole(h.New)[len(h.New):][:3], []string{"b", "\n", "behind"})
		}
		applies(t, name+", written into all answers: a later one", mine, l, applied(texts, p), api.OK)
	})
}

func TestNoTwoListsOfOneInverseShareAny(t *testing.T) {
	for name, p := range patches() {
		want := inverted(p)
		if !isPatch(want) || len(p) > 10 {
			continue
		}
		for which := range 2 * len(want) {
			back, _ := hunk.Invert(p)
			here := slices.Clone(want)
			h, hereH := back[which/2], &here[which/2]
			if which%2 == 0 {
				writeAll(h.Old, "written")
				hereH.Old = slices.Repeat([]string{"written"}, len(hereH.Old))
			} else {
				writeAll(h.New, "written")
				hereH.New = slices.Repeat([]string{"written"}, len(hereH.New))
			}
			sameHunks(t, fmt.Sprintf("%s, written into the list %d", name, which), back, here)
		}
	}
}

func TestTheListsOfOneInverseShareNoneWhereThoseHandedInDo(t *testing.T) {
	shared := of("a b")
	p := []api.Hunk{{Old: shared, New: shared}, {At: 3, Old: shared[:1], New: shared[1:]}}
	for which := range 4 {
		back, e := hunk.Invert(p)
		if e != api.OK {
			t.Fatal(e)
		}
		lists := [][]string{back[0].Old, back[0].New, back[1].Old, back[1].New}
		want := [][]string{of("a b"), of("a b"), of("b"), of("a")}
		writeAll(lists[which], "written")
		want[which] = slices.Repeat([]string{"written"}, len(want[which]))
		for i := range lists {
			same(t, fmt.Sprintf("written into the list %d: the list %d", which, i), lists[i], want[i])
		}
	}
	same(t, "what was handed in", shared, of("a b"))
}

func TestWhatIsHandedOutStaysAsItIs(t *testing.T) {
	fitting(func(name string, p []api.Hunk, texts []string) {
		if name == "tiny" && len(texts) > 3 {
			return
		}
		there, back, row := applied(texts, p), inverted(p), stands(p, len(texts))
		wantBack := roomyHunks(back)
		l, mine, mineThere := roomyHunks(p), roomy(texts, "a"), roomy(there, "b")
		gotThere, _ := hunk.Apply(mine, l)
		gotTexts, _ := hunk.Undo(mineThere, l)
		gotBack, _ := hunk.Invert(l)
		gotRow, _ := hunk.Touched(l, len(mine))
		writeHunks(l)
		writeAll(mine, "written")
		writeAll(mineThere, "written")
		same(t, name+", written over what was handed in: Apply", gotThere, there)
		same(t, name+", written over what was handed in: Undo", gotTexts, applied(there, back))
		sameHunks(t, name+", written over what was handed in: Invert", gotBack, wantBack)
		same(t, name+", written over what was handed in: Touched", gotRow, row)
	})
}

// R6

func TestEmptyListsAreTheSame(t *testing.T) {
	empties := [][]string{nil, {}, make([]string, 0, 5), of("a b")[:0]}
	for _, one := range empties {
		for _, other := range empties {
			p, q := []api.Hunk{{At: 1, Old: one, New: of("x")}, {At: 3, Old: of("b"), New: one}}, []api.Hunk{at(1, "", "x"), {At: 3, Old: of("b"), New: other}}
			if !hunk.Same(p, q) || !hunk.Same(q, p) || !hunk.Same([]api.Hunk{{Old: one, New: other}}, []api.Hunk{{Old: other, New: one}}) {
				t.Error("hunks with empty lists are not the same")
			}
			if got, want := asked(p, of("a c d b")), asked(q, of("a c d b")); got != want {
				t.Errorf("%s, want %s", got, want)
			}
			checks(t, "empty in both", []api.Hunk{{Old: one, New: other}}, 0, api.ErrHunks)
			touches(t, api.Hunk{Old: one, New: other}, 0, 0, 0)
			fits(t, "no texts", []api.Hunk{{Old: one, New: of("x")}}, other, 0, api.OK)
			applies(t, "no texts", one, []api.Hunk{{Old: other, New: of("x")}}, of("x"), api.OK)
			applies(t, "nothing left", of("x"), []api.Hunk{{Old: of("x"), New: other}}, one, api.OK)
		}
	}
	if !hunk.Same(nil, []api.Hunk{}) || !hunk.Same(many(2)[:0], nil) {
		t.Error("no hunks are not the same")
	}
}

// R1

func TestWhateverIsHandedInIsAnswered(t *testing.T) {
	numbers := []int{math.MinInt, math.MinInt + 1, -1 << 31, -1, 0, 1, 2, most, most + 1, greatest - 1, greatest, greatest + 1, math.MaxInt - 1, math.MaxInt}
	lists := [][]string{nil, {}, of("a"), {"", "\n"}, {long(256), long(257)}, {"\xff", "\x00"}}
	var hunks []api.Hunk
	for _, n := range numbers {
		for _, old := range lists {
			for _, new := range lists {
				hunks = append(hunks, api.Hunk{At: n, Old: old, New: new})
			}
		}
	}
	for i, h := range hunks {
		for _, other := range hunks[i%7:] {
			p := []api.Hunk{h, other}
			place, e := noPatchUpTo(p)
			checks(t, "any", p, place, e)
			if i%50 != 0 {
				continue
			}
			for _, texts := range lists {
				place, e := fault(p, texts)
				fits(t, "any", p, texts, place, e)
			}
			hunk.Undo(lists[2], p)
			hunk.Touch(h)
			hunk.Same(p, hunks[:2])
			for _, n := range []int{-1, 0, 3} {
				hunk.Touched(p, n)
			}
		}
		for _, n := range numbers[:7] {
			hunk.Touched([]api.Hunk{h}, n)
		}
		hunk.Touched([]api.Hunk{h}, math.MaxInt)
	}
}
