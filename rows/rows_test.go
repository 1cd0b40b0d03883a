package rows

import (
	"math"
	"slices"
	"testing"

	"vennhouse/api"
	"vennhouse/atom"
	"vennhouse/fields"
	"vennhouse/plain"
	"vennhouse/term"
)

// The numbers as chapters 3, 6 and 7 and package api write them, so that the names are held against them, too.
const (
	sub     = 1
	same    = 2
	atLeast = 3
	atMost  = 4
	noMore  = 5

	cells     = 8
	maxThings = 6
	maxRows   = 12
	maxNumber = 20
)

// counts of things in each field.
type counts = [cells]int

// far are numbers that are wrong wherever they stand, and at which a sum or a product would go astray.
var far = []int{
	math.MinInt, math.MinInt + 1, math.MinInt / 2, math.MinInt / 8, -1 << 32, -1000, -101,
	101, 1000, 1 << 31, 1 << 32, 1 << 61, 1 << 62, math.MaxInt - 1, math.MaxInt,
}

// wrongAtoms are atoms that are none, and what chapter 3 says of them.
var wrongAtoms = []struct {
	a     api.Atom
	wrong api.Errno
}{
	{api.Atom{}, api.ErrRange},
	{api.Atom{What: 0, S: []int{0}}, api.ErrRange},
	{api.Atom{What: 6, S: []int{0}, T: []int{0}}, api.ErrRange},
	{api.Atom{What: -1, S: []int{0}, T: []int{0}}, api.ErrRange},
	{api.Atom{What: math.MaxInt}, api.ErrRange},
	{api.Atom{What: math.MinInt}, api.ErrRange},
	// What is told ahead of S, S ahead of T, T ahead of N.
	{api.Atom{What: sub}, api.ErrNone},
	{api.Atom{What: atLeast, T: []int{0}, N: 21}, api.ErrNone},
	{api.Atom{What: same, S: []int{0, 1}, T: []int{9}, N: 1}, api.ErrShape},
	{api.Atom{What: noMore, S: slices.Repeat([]int{0}, 13), T: []int{9}, N: 21}, api.ErrFull},
	{api.Atom{What: atMost, S: []int{9}, T: []int{0}, N: 21}, api.ErrRange},
	{api.Atom{What: atMost, S: []int{-1}}, api.ErrRange},
	{api.Atom{What: sub, S: []int{0}, N: 1}, api.ErrNone},
	{api.Atom{What: same, S: []int{0}, T: []int{5}, N: 1}, api.ErrShape},
	{api.Atom{What: noMore, S: []int{0}, N: 21}, api.ErrNone},
	{api.Atom{What: noMore, S: []int{0}, T: append([]int{0}, slices.Repeat([]int{8}, 12)...)}, api.ErrFull},
	{api.Atom{What: atLeast, S: []int{0}, T: []int{1}, N: 21}, api.ErrShape},
	{api.Atom{What: atMost, S: []int{0}, T: []int{9}, N: -21}, api.ErrShape},
	{api.Atom{What: sub, S: []int{0}, T: []int{1}, N: 1}, api.ErrRange},
	{api.Atom{What: same, S: []int{0}, T: []int{1}, N: -1}, api.ErrRange},
	{api.Atom{What: atLeast, S: []int{0}, N: 21}, api.ErrRange},
	{api.Atom{What: atLeast, S: []int{0}, N: math.MinInt}, api.ErrRange},
	{api.Atom{What: atMost, S: []int{0}, N: -21}, api.ErrRange},
	{api.Atom{What: atMost, S: []int{0}, N: math.MaxInt}, api.ErrRange},
	{api.Atom{What: noMore, S: []int{0}, T: []int{1}, N: 21}, api.ErrRange},
	{api.Atom{What: noMore, S: []int{0}, T: []int{1}, N: math.MinInt}, api.ErrRange},
}

// wrongCounts are counts that are none, and what chapter 6 says of them.
var wrongCounts = []struct {
	n     counts
	wrong api.Errno
}{
	{counts{7}, api.ErrRange},
	{counts{0, 0, 0, 0, 0, 0, 0, -1}, api.ErrRange},
	{counts{6, 1, 0, 0, 0, 0, 0, -1}, api.ErrRange},
	{counts{7, -1}, api.ErrRange},
	{counts{math.MaxInt, math.MinInt, 1}, api.ErrRange},
	{counts{6, 1}, api.ErrFull},
	{counts{0, 0, 0, 0, 0, 0, 1, 6}, api.ErrFull},
	{counts{1, 1, 1, 1, 1, 1, 1, 1}, api.ErrFull},
	{counts{6, 6, 6, 6, 6, 6, 6, 6}, api.ErrFull},
}

// texts of terms of all kinds, the longest ones among them.
var texts = []string{
	"A", "B", "C", "0", "1", "A~", "AB+", "BC*", "CA-", "AB*C*", "AB+C+~", "AB-BA-+", "ABCABC+*-+*~", "AB+BC+*CA+*", "A~B~C~++~1-~",
}

// read a term that is right.
func read(t *testing.T, text string) []int {
	t.Helper()
	row, err := term.Parse(text)
	if err != nil {
		t.Fatalf("Parse(%q): got %v", text, err)
	}
	return row
}

// said is an atom that is right, by its text.
func said(t *testing.T, text string) api.Atom {
	t.Helper()
	a, err := atom.Parse(text)
	if err != nil {
		t.Fatalf("Parse(%q): got %v", text, err)
	}
	return a
}

// eachCounts does something with all counts that are right: 3003 of them.
func eachCounts(do func(n counts)) (many int) {
	var n counts
	var fill func(field, left int)
	fill = func(field, left int) {
		if field == cells {
			many++
			do(n)
			return
		}
		for k := range left + 1 {
			n[field] = k
			fill(field+1, left-k)
		}
		n[field] = 0
	}
	fill(0, maxThings)
	return many
}

// eachAtom does something with each kind of atom of these terms, with a few numbers.
func eachAtom(s, t []int, do func(a api.Atom)) {
	do(api.Atom{What: sub, S: s, T: t})
	do(api.Atom{What: same, S: s, T: t})
	for _, n := range []int{-20, -7, -2, -1, 0, 1, 2, 3, 6, 7, 20} {
		do(api.Atom{What: atLeast, S: s, N: n})
		do(api.Atom{What: atMost, S: s, N: n})
		do(api.Atom{What: noMore, S: s, T: t, N: n})
	}
}

// lies tells whether a term has what lies in a field: what it is in a world with that one thing.
func lies(t *testing.T, row []int, field int) bool {
	t.Helper()
	value, err := term.Value(row, api.World{Things: 1, Has: [3]int{field % 2, field / 2 % 2, field / 4}})
	if err != nil {
		t.Fatalf("Value(%v): got %v", row, err)
	}
	return value == 1
}

// wantRow is the row of a right atom, field by field, as the chapter says it.
func wantRow(t *testing.T, a api.Atom, holds bool) (r api.Row) {
	t.Helper()
	for field := range cells {
		inS := lies(t, a.S, field)
		inT := len(a.T) > 0 && lies(t, a.T, field)
		switch {
		case a.What == sub && inS && !inT, a.What == same && inS != inT, a.What == atMost && inS, a.What == noMore && inS && !inT:
			r.Times[field] = 1
		case a.What == atLeast && inS, a.What == noMore && inT && !inS:
			r.Times[field] = -1
		}
		if !holds {
			r.Times[field] *= -1
		}
	}
	switch a.What {
	case atLeast:
		r.Most = -a.N
	case atMost, noMore:
		r.Most = a.N
	}
	if !holds {
		r.Most = -r.Most - 1
	}
	return r
}

// isSo tells of one right row and right counts, thing by thing, whether it is so.
func isSo(r api.Row, n counts) bool {
	left := r.Most
	for field, many := range n {
		for range many {
			left -= r.Times[field]
		}
	}
	return left >= 0
}

func askOf(t *testing.T, a api.Atom, holds bool, want api.Row, wrong api.Errno) {
	t.Helper()
	got, err := Of(a, holds)
	if got != want || plain.Told(err) != wrong {
		t.Errorf("Of(%v, %t): got %v %v, want %v %v", a, holds, got, plain.Told(err), want, wrong)
	}
}

func askFits(t *testing.T, l []api.Row, n counts, want bool, wrong api.Errno) {
	t.Helper()
	got, err := Fits(l, n)
	if got != want || plain.Told(err) != wrong {
		t.Errorf("Fits(%v, %v): got %t %v, want %t %v", l, n, got, plain.Told(err), want, wrong)
	}
}

func TestNumbersOfTheChapter(t *testing.T) {
	got := [...]int{api.Sub, api.Same, api.AtLeast, api.AtMost, api.NoMore, api.Fields, api.MaxThings, api.MaxRows, api.MaxNumber}
	want := [...]int{sub, same, atLeast, atMost, noMore, cells, maxThings, maxRows, maxNumber}
	if got != want {
		t.Errorf("numbers: got %v, want %v", got, want)
	}
}

// TestErrorIsNil: where nothing is wrong the error is nil, not an OK in an error.
func TestErrorIsNil(t *testing.T) {
	for _, holds := range []bool{true, false} {
		if _, err := Of(api.Atom{What: atMost, S: []int{0}}, holds); err != nil {
			t.Errorf("Of: got %v", err)
		}
	}
	for _, most := range []int{-1, 1} {
		if _, err := Fits([]api.Row{{Most: most}}, counts{}); err != nil {
			t.Errorf("Fits: got %v", err)
		}
	}
}

func TestOfByHand(t *testing.T) {
	for _, c := range []struct {
		text string
		want api.Row
		not  api.Row
	}{
		{"sub A B", api.Row{Times: counts{0, 1, 0, 0, 0, 1}}, api.Row{Times: counts{0, -1, 0, 0, 0, -1}, Most: -1}},
		{"sub B A", api.Row{Times: counts{0, 0, 1, 0, 0, 0, 1}}, api.Row{Times: counts{0, 0, -1, 0, 0, 0, -1}, Most: -1}},
		{"sub 1 0", api.Row{Times: counts{1, 1, 1, 1, 1, 1, 1, 1}}, api.Row{Times: counts{-1, -1, -1, -1, -1, -1, -1, -1}, Most: -1}},
		{"sub 0 1", api.Row{}, api.Row{Most: -1}},
		{"sub A A", api.Row{}, api.Row{Most: -1}},
		{"same A B", api.Row{Times: counts{0, 1, 1, 0, 0, 1, 1}}, api.Row{Times: counts{0, -1, -1, 0, 0, -1, -1}, Most: -1}},
		{"same B A", api.Row{Times: counts{0, 1, 1, 0, 0, 1, 1}}, api.Row{Times: counts{0, -1, -1, 0, 0, -1, -1}, Most: -1}},
		{"same C 0", api.Row{Times: counts{0, 0, 0, 0, 1, 1, 1, 1}}, api.Row{Times: counts{0, 0, 0, 0, -1, -1, -1, -1}, Most: -1}},
		{"same C C", api.Row{}, api.Row{Most: -1}},
		{"least A 2", api.Row{Times: counts{0, -1, 0, -1, 0, -1, 0, -1}, Most: -2}, api.Row{Times: counts{0, 1, 0, 1, 0, 1, 0, 1}, Most: 1}},
		{"least A 0", api.Row{Times: counts{0, -1, 0, -1, 0, -1, 0, -1}}, api.Row{Times: counts{0, 1, 0, 1, 0, 1, 0, 1}, Most: -1}},
		{"least 0 -20", api.Row{Most: 20}, api.Row{Most: -21}},
		{"least ABC** 20", api.Row{Times: counts{7: -1}, Most: -20}, api.Row{Times: counts{7: 1}, Most: 19}},
		{"most B 3", api.Row{Times: counts{0, 0, 1, 1, 0, 0, 1, 1}, Most: 3}, api.Row{Times: counts{0, 0, -1, -1, 0, 0, -1, -1}, Most: -4}},
		{"most B 0", api.Row{Times: counts{0, 0, 1, 1, 0, 0, 1, 1}}, api.Row{Times: counts{0, 0, -1, -1, 0, 0, -1, -1}, Most: -1}},
		{"most AB+C+~ -1", api.Row{Times: counts{1}, Most: -1}, api.Row{Times: counts{-1}}},
		{"most 1 -20", api.Row{Times: counts{1, 1, 1, 1, 1, 1, 1, 1}, Most: -20}, api.Row{Times: counts{-1, -1, -1, -1, -1, -1, -1, -1}, Most: 19}},
		{"nomore B C 3", api.Row{Times: counts{0, 0, 1, 1, -1, -1}, Most: 3}, api.Row{Times: counts{0, 0, -1, -1, 1, 1}, Most: -4}},
		{"nomore A A~ -1", api.Row{Times: counts{-1, 1, -1, 1, -1, 1, -1, 1}, Most: -1}, api.Row{Times: counts{1, -1, 1, -1, 1, -1, 1, -1}}},
		{"nomore 1 1 20", api.Row{Most: 20}, api.Row{Most: -21}},
		{"nomore 0 1 -20", api.Row{Times: counts{-1, -1, -1, -1, -1, -1, -1, -1}, Most: -20}, api.Row{Times: counts{1, 1, 1, 1, 1, 1, 1, 1}, Most: 19}},
	} {
		askOf(t, said(t, c.text), true, c.want, api.OK)
		askOf(t, said(t, c.text), false, c.not, api.OK)
	}
}

// TestOfEveryPair: of each kind of atom, of each two of the terms.
func TestOfEveryPair(t *testing.T) {
	for _, first := range texts {
		for _, second := range texts {
			eachAtom(read(t, first), read(t, second), func(a api.Atom) {
				askOf(t, a, true, wantRow(t, a, true), api.OK)
				askOf(t, a, false, wantRow(t, a, false), api.OK)
			})
		}
	}
}

// TestOfEveryNumber: from -20 to 20, and none beyond these.
func TestOfEveryNumber(t *testing.T) {
	for n := -30; n <= 30; n++ {
		for _, a := range []api.Atom{{What: atLeast, S: []int{0}, N: n}, {What: atMost, S: []int{0}, N: n}, {What: noMore, S: []int{0}, T: []int{1}, N: n}} {
			for _, holds := range []bool{true, false} {
				if n < -maxNumber || n > maxNumber {
					askOf(t, a, holds, api.Row{}, api.ErrRange)
					continue
				}
				askOf(t, a, holds, wantRow(t, a, holds), api.OK)
			}
		}
	}
}

func TestOfWrong(t *testing.T) {
	for _, c := range wrongAtoms {
		askOf(t, c.a, true, api.Row{}, c.wrong)
		askOf(t, c.a, false, api.Row{}, c.wrong)
	}
}

// TestRowSaysWhatTheAtomSays: whatever the counts, the row is so, if the atom holds in their World, and the other row, if not.
func TestRowSaysWhatTheAtomSays(t *testing.T) {
	pairs := [][2]string{{"A", "B"}, {"AB+", "C"}, {"A~", "A"}, {"AB-BA-+", "BC*"}, {"1", "ABC+*"}, {"0", "C"}, {"AB+C+~", "AB+BC+*CA+*"}}
	many := eachCounts(func(n counts) {
		w, err := fields.World(n)
		if err != nil {
			t.Fatalf("World(%v): got %v", n, err)
		}
		for _, p := range pairs {
			eachAtom(read(t, p[0]), read(t, p[1]), func(a api.Atom) {
				is, err := atom.Holds(a, w)
				if err != nil {
					t.Fatalf("Holds(%v, %v): got %v", a, w, err)
				}
				yes, _ := Of(a, true)
				no, _ := Of(a, false)
				askFits(t, []api.Row{yes}, n, is, api.OK)
				askFits(t, []api.Row{no}, n, !is, api.OK)
				askFits(t, []api.Row{yes, no}, n, false, api.OK)
			})
		}
	})
	if many != 3003 {
		t.Errorf("counts: got %d, want 3003", many)
	}
}

func TestFitsByHand(t *testing.T) {
	n := counts{1, 2, 0, 1, 0, 0, 0, 2}
	for _, c := range []struct {
		l    []api.Row
		want bool
	}{
		{nil, true}, {[]api.Row{}, true},
		{[]api.Row{{}}, true}, {[]api.Row{{Most: -1}}, false}, {[]api.Row{{Most: 1}}, true},
		{[]api.Row{{Times: counts{1}, Most: 1}}, true}, {[]api.Row{{Times: counts{1}}}, false},
		{[]api.Row{{Times: counts{0, 2}, Most: 4}}, true}, {[]api.Row{{Times: counts{0, 2}, Most: 3}}, false},
		{[]api.Row{{Times: counts{7: -2}, Most: -4}}, true}, {[]api.Row{{Times: counts{7: -2}, Most: -5}}, false},
		{[]api.Row{{Times: counts{2: 2, 4: 2, 5: 2, 6: 2}}}, true}, {[]api.Row{{Times: counts{2: -2, 4: -2, 5: -2, 6: -2}, Most: -1}}, false},
		// 1 - 4 + 2 + 4 is 3.
		{[]api.Row{{Times: counts{1, -2, 1, 2, 1, 1, 1, 2}, Most: 3}}, true}, {[]api.Row{{Times: counts{1, -2, 1, 2, 1, 1, 1, 2}, Most: 2}}, false},
		// All of them are to be so, wherever one is not.
		{[]api.Row{{}, {Most: -1}}, false}, {[]api.Row{{Most: -1}, {}}, false}, {[]api.Row{{}, {Most: -1}, {}}, false}, {[]api.Row{{}, {}, {Most: 1}}, true},
		{[]api.Row{{Most: 100}}, true}, {[]api.Row{{Most: -100}}, false},
	} {
		askFits(t, c.l, n, c.want, api.OK)
	}
}

// TestFitsOfAllCounts: rows one by one, and all together.
func TestFitsOfAllCounts(t *testing.T) {
	l := []api.Row{
		{Times: counts{1, 1, 1, 1, 1, 1, 1, 1}, Most: 5},
		{Times: counts{-1, -1, -1, -1, -1, -1, -1, -1}, Most: -2},
		{Times: counts{2, -2, 1, -1, 0, 2, -2, 1}, Most: 1},
		{Times: counts{-2, 0, 2, 1, -1, 1, 2, -1}, Most: 0},
		{Times: counts{7: 2}, Most: 4},
		{Times: counts{2, 2, 2, 2, 2, 2, 2, 2}, Most: 12},
		{Times: counts{-2, -2, -2, -2, -2, -2, -2, -2}, Most: -12},
	}
	seen := map[bool]int{}
	eachCounts(func(n counts) {
		together := true
		for i, r := range l {
			is := isSo(r, n)
			askFits(t, []api.Row{r}, n, is, api.OK)
			together = together && is
			askFits(t, l[:i+1], n, together, api.OK)
			if i == 4 {
				seen[together]++
			}
		}
	})
	if seen[true] < 100 || seen[false] < 100 {
		t.Errorf("too few of a kind: %v", seen)
	}
}

// TestFull: twelve rows are not too many, and thirteen are, whatever they and the counts are.
func TestFull(t *testing.T) {
	askFits(t, make([]api.Row, maxRows), counts{1}, true, api.OK)
	for i := range maxRows {
		l := make([]api.Row, maxRows)
		l[i].Most = -1
		askFits(t, l, counts{1}, false, api.OK)
	}
	askFits(t, make([]api.Row, maxRows+1), counts{1}, false, api.ErrFull)
	askFits(t, slices.Repeat([]api.Row{{Most: -1}}, maxRows+1), counts{1}, false, api.ErrFull)
	askFits(t, slices.Repeat([]api.Row{{Most: 101}}, maxRows+1), counts{1}, false, api.ErrFull)
	askFits(t, make([]api.Row, 1<<18), counts{1}, false, api.ErrFull)
	for _, c := range wrongCounts {
		askFits(t, make([]api.Row, maxRows+1), c.n, false, api.ErrFull)
		askFits(t, make([]api.Row, maxRows), c.n, false, c.wrong)
	}
}

// askWrongRow asks for ErrRange, wherever in a list a row stands, and ahead of what is wrong with the counts.
func askWrongRow(t *testing.T, r api.Row) {
	t.Helper()
	for _, n := range []counts{{}, {6}, {0, 1, 1, 1, 1, 1, 1}, {7}, {6, 1}} {
		askFits(t, []api.Row{r}, n, false, api.ErrRange)
		askFits(t, []api.Row{{Most: -1}, r}, n, false, api.ErrRange)
		askFits(t, []api.Row{r, {Most: -1}}, n, false, api.ErrRange)
		last := make([]api.Row, maxRows)
		last[maxRows-1] = r
		askFits(t, last, n, false, api.ErrRange)
	}
}

// TestTimes: from -2 to 2, in each field.
func TestTimes(t *testing.T) {
	for field := range cells {
		for times := -5; times <= 5; times++ {
			r := api.Row{Most: 0}
			r.Times[field] = times
			if times < -2 || times > 2 {
				askWrongRow(t, r)
				continue
			}
			var n counts
			n[field] = 6
			askFits(t, []api.Row{r}, n, times <= 0, api.OK)
			askFits(t, []api.Row{r}, counts{}, true, api.OK)
		}
		for _, times := range far {
			var r api.Row
			r.Times[field] = times
			askWrongRow(t, r)
		}
	}
}

// TestMost: from -100 to 100.
func TestMost(t *testing.T) {
	for most := -110; most <= 110; most++ {
		r := api.Row{Times: counts{2, 2, 2, 2, 2, 2, 2, -2}, Most: most}
		if most < -100 || most > 100 {
			askWrongRow(t, r)
			continue
		}
		askFits(t, []api.Row{r}, counts{6}, most >= 12, api.OK)
		askFits(t, []api.Row{r}, counts{7: 6}, most >= -12, api.OK)
		askFits(t, []api.Row{r}, counts{}, most >= 0, api.OK)
	}
	for _, most := range far {
		askWrongRow(t, api.Row{Most: most})
	}
}

// TestWrongCounts: told with no row, too, and where a row is not so.
func TestWrongCounts(t *testing.T) {
	for _, c := range wrongCounts {
		for _, l := range [][]api.Row{nil, {{}}, {{Most: -1}}, {{Most: 100}, {Times: counts{2, 2}, Most: -100}}} {
			askFits(t, l, c.n, false, c.wrong)
		}
	}
	for field := range cells {
		for _, many := range append([]int{-1, 7}, far...) {
			var n counts
			n[field] = many
			askFits(t, nil, n, false, api.ErrRange)
			askFits(t, []api.Row{{Times: counts{1, 1, 1, 1, 1, 1, 1, 1}}}, n, false, api.ErrRange)
		}
	}
}

// TestNothingIsWritten: into a list that is handed in, or what lies behind it; and that is not read.
func TestNothingIsWritten(t *testing.T) {
	signs := []int{0, 1, 5, 8, 99, -5, 7}
	keepSigns := slices.Clone(signs)
	rows := append(slices.Repeat([]api.Row{{Times: counts{1, -1}, Most: 1}}, 3), api.Row{Most: 999}, api.Row{Times: counts{9}})
	keepRows := slices.Clone(rows)
	for many := range len(signs) + 1 {
		Of(api.Atom{What: same, S: signs[:many], T: signs[:1]}, true)
		Of(api.Atom{What: noMore, S: signs[:3], T: signs[:many]}, false)
		Fits(rows[:min(many, len(rows))], counts{1})
		if !slices.Equal(signs, keepSigns) || !slices.Equal(rows, keepRows) {
			t.Fatalf("%d: got %v and %v, want %v and %v", many, signs, rows, keepSigns, keepRows)
		}
	}
	askOf(t, api.Atom{What: atMost, S: signs[:3], T: signs[:0], N: 2}, true, api.Row{Times: counts{0, 1, 1, 1, 0, 1, 1, 1}, Most: 2}, api.OK)
	askFits(t, rows[:3], counts{1}, true, api.OK)
	askFits(t, rows[:3], counts{2}, false, api.OK)
	askFits(t, rows[:4], counts{1}, false, api.ErrRange)
}
