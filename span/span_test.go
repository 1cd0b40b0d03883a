package span

import (
	"math"
	"math/bits"
	"reflect"
	"slices"
	"testing"

	"vennhouse/api"
	"vennhouse/atom"
	"vennhouse/core"
	"vennhouse/cubes"
	"vennhouse/form"
	"vennhouse/plain"
	"vennhouse/term"
)

// The numbers as chapters 1, 2 and 4 and package api write them, so that the names are held against them, too.
const (
	and  = 10
	or   = 11
	no   = 12
	then = 13

	maxThings = 6
	maxTerm   = 12
	maxAtoms  = 6
	maxCode   = 20
)

// wrongThings are numbers of things that are none.
var wrongThings = []int{
	-1, -2, -6, 7, 8, 9, 62, 63, 64, 1 << 31, 1 << 32, 1 << 62, -1 << 32,
	math.MinInt, math.MinInt + 1, math.MinInt + 6, math.MaxInt - 1, math.MaxInt,
}

// of has atoms, as texts, and a Code.
func of(t *testing.T, texts []string, code ...int) api.Form {
	t.Helper()
	f := api.Form{Code: code}
	for _, text := range texts {
		a, err := atom.Parse(text)
		if err != nil {
			t.Fatalf("Parse(%q): got %v", text, err)
		}
		f.Atoms = append(f.Atoms, a)
	}
	return f
}

// all of some atoms, as texts, put together.
func all(t *testing.T, texts ...string) api.Form {
	t.Helper()
	code := []int{0}
	for i := range len(texts) - 1 {
		code = append(code, i+1, and)
	}
	return of(t, texts, code...)
}

// signs of a term, as a text.
func signs(t *testing.T, text string) []int {
	t.Helper()
	s, err := term.Parse(text)
	if err != nil {
		t.Fatalf("Parse(%q): got %v", text, err)
	}
	return s
}

// every world of u things.
func every(u int) (out []api.World) {
	for a := range 1 << u {
		for b := range 1 << u {
			for c := range 1 << u {
				out = append(out, api.World{Things: u, Has: [3]int{a, b, c}})
			}
		}
	}
	return out
}

func askOf(t *testing.T, f api.Form, s []int, u int, want api.Span, wrong api.Errno) {
	t.Helper()
	got, err := Of(f, s, u)
	if got != want || plain.Told(err) != wrong {
		t.Errorf("Of(%v, %v, %d): got %v %v, want %v %v", f, s, u, got, plain.Told(err), want, wrong)
	}
}

func askExact(t *testing.T, f api.Form, s []int, u, want int, wrong api.Errno) {
	t.Helper()
	got, err := Exact(f, s, u)
	if got != want || plain.Told(err) != wrong {
		t.Errorf("Exact(%v, %v, %d): got %d %v, want %d %v", f, s, u, got, plain.Told(err), want, wrong)
	}
}

// askBoth asks of a formula that holds in some world.
func askBoth(t *testing.T, f api.Form, s []int, u, least, most int) {
	t.Helper()
	askOf(t, f, s, u, api.Span{Least: least, Most: most}, api.OK)
	if least == most {
		askExact(t, f, s, u, least, api.OK)
	} else {
		askExact(t, f, s, u, 0, api.ErrFree)
	}
}

// askWrong asks for an error of both.
func askWrong(t *testing.T, f api.Form, s []int, u int, wrong api.Errno) {
	t.Helper()
	askOf(t, f, s, u, api.Span{}, wrong)
	askExact(t, f, s, u, 0, wrong)
}

func TestNumbersOfTheChapter(t *testing.T) {
	got := [...]int{api.And, api.Or, api.No, api.Then, api.MaxThings, api.MaxTerm, api.MaxAtoms, api.MaxCode}
	want := [...]int{and, or, no, then, maxThings, maxTerm, maxAtoms, maxCode}
	if got != want {
		t.Errorf("numbers: got %v, want %v", got, want)
	}
	if api.ErrNone != 5 || api.ErrFree != 8 {
		t.Errorf("errors: got %d %d", int(api.ErrNone), int(api.ErrFree))
	}
}

// TestErrorIsNil: where nothing is wrong the error is nil, not an OK in an error.
func TestErrorIsNil(t *testing.T) {
	if _, err := Of(all(t, "least A 1"), []int{0}, 2); err != nil {
		t.Errorf("Of: got %v", err)
	}
	if _, err := Exact(all(t, "least A 2"), []int{0}, 2); err != nil {
		t.Errorf("Exact: got %v", err)
	}
}

func TestByHand(t *testing.T) {
	for _, c := range []struct {
		texts       []string
		s           string
		u           int
		least, most int
	}{
		{[]string{"sub A A"}, "A", 0, 0, 0},
		{[]string{"sub A A"}, "A", 1, 0, 1},
		{[]string{"sub A A"}, "A", 6, 0, 6},
		{[]string{"sub A A"}, "1", 6, 6, 6},
		{[]string{"sub A A"}, "0", 6, 0, 0},
		{[]string{"sub A A"}, "AA~+", 5, 5, 5},
		{[]string{"sub A A"}, "AB+AB+-", 5, 0, 0},
		{[]string{"least A 2"}, "A", 4, 2, 4},
		{[]string{"least A 2"}, "A~", 4, 0, 2},
		{[]string{"least A 2"}, "AB+", 4, 2, 4},
		{[]string{"least A 2"}, "AB*", 4, 0, 4},
		{[]string{"most A 2"}, "A", 4, 0, 2},
		{[]string{"most A 2"}, "A~", 4, 2, 4},
		{[]string{"most A 20"}, "A", 4, 0, 4},
		{[]string{"least A -20"}, "A", 4, 0, 4},
		{[]string{"least A 6"}, "A", 6, 6, 6},
		{[]string{"least A 6"}, "A~", 6, 0, 0},
		{[]string{"least A 2", "most A 3"}, "A", 6, 2, 3},
		{[]string{"least A 3", "most A 3"}, "A", 6, 3, 3},
		{[]string{"least A 3", "most A 3"}, "A~", 6, 3, 3},
		{[]string{"least A 3", "least B 4"}, "AB*", 6, 1, 6},
		{[]string{"least A 3", "most A 3", "least B 4", "most B 4"}, "AB*", 6, 1, 3},
		{[]string{"least A 3", "most A 3", "least B 4", "most B 4"}, "AB+", 6, 4, 6},
		{[]string{"least A 3", "most A 3", "least B 4", "most B 4"}, "AB-", 6, 0, 2},
		{[]string{"least A 3", "most A 3", "least B 4", "most B 4"}, "AB-BA-+", 6, 1, 5},
		{[]string{"least A 2", "most A 2", "least B 1", "most B 1", "same AB* 0"}, "AB+", 5, 3, 3},
		{[]string{"least A 2", "most A 2", "least B 1", "most B 1", "same AB* 0"}, "AB+~", 5, 2, 2},
		{[]string{"sub A B", "sub B C", "least A 1", "most C 3"}, "B", 6, 1, 3},
		{[]string{"sub A B", "sub B C", "least A 1", "most C 3"}, "CA-", 6, 0, 2},
		{[]string{"same A B~"}, "AB+", 4, 4, 4},
		{[]string{"same A B~"}, "AB*", 4, 0, 0},
		{[]string{"nomore A B -1", "nomore B C -1"}, "A", 4, 0, 2},
		{[]string{"nomore A B -1", "nomore B C -1"}, "B", 4, 1, 3},
		{[]string{"nomore A B -1", "nomore B C -1"}, "C", 4, 2, 4},
		{[]string{"nomore A B -1", "nomore B C -1"}, "B", 2, 1, 1},
		{[]string{"nomore 1 A 1", "nomore 1 B 1"}, "AB*", 5, 3, 5},
	} {
		askBoth(t, all(t, c.texts...), signs(t, c.s), c.u, c.least, c.most)
	}
}

// TestPutTogether: formulas that hold with few, or with many, and not between.
func TestPutTogether(t *testing.T) {
	parts := []string{"most A 1", "least A 5", "least B 1", "sub B A"}
	for _, c := range []struct {
		code        []int
		s           string
		u           int
		least, most int
	}{
		{[]int{0, 1, or}, "A", 6, 0, 6},
		{[]int{0, 1, or}, "A", 4, 0, 1},
		{[]int{0, no, 1, no, and}, "A", 6, 2, 4},
		{[]int{0, 1, then}, "A", 6, 2, 6},
		{[]int{0, no, 1, then}, "A", 6, 0, 6},
		{[]int{0, no}, "A", 6, 2, 6},
		{[]int{0, 2, and, 3, and}, "A", 6, 1, 1},
		{[]int{0, 2, and, 3, and}, "AB*", 6, 1, 1},
		{[]int{0, 2, and, 3, and}, "AB-", 6, 0, 0},
		{[]int{2, no}, "B", 6, 0, 0},
		{[]int{2, 3, and, no}, "B", 3, 0, 3},
		{[]int{3, no}, "BA-", 3, 1, 3},
		{[]int{0, 0, no, or}, "C", 3, 0, 3},
	} {
		askBoth(t, of(t, parts, c.code...), signs(t, c.s), c.u, c.least, c.most)
	}
}

// TestNone: where it holds in no world of so many things, whatever the term.
func TestNone(t *testing.T) {
	for _, c := range []struct {
		f api.Form
		u int
	}{
		{all(t, "least A 1"), 0},
		{all(t, "least A 6"), 5},
		{all(t, "least A 7"), 6},
		{all(t, "most A -1"), 0},
		{all(t, "most 0 -1"), 6},
		{all(t, "least A 1", "most A 0"), 3},
		{all(t, "least A 2", "least B 2", "same AB* 0"), 3},
		{of(t, []string{"sub A B"}, 0, 0, no, and), 4},
		{of(t, []string{"sub A A"}, 0, no), 4},
		{of(t, []string{"sub A B", "sub B A"}, 0, no, 1, no, and), 1},
	} {
		for _, s := range []string{"A", "B", "C", "0", "1", "AB+", "CC~*"} {
			askWrong(t, c.f, signs(t, s), c.u, api.ErrNone)
		}
	}
	askBoth(t, all(t, "least A 6"), []int{0}, 6, 6, 6)
	askBoth(t, all(t, "least A 2", "least B 2", "same AB* 0"), []int{0}, 4, 2, 2)
}

// pool of atoms of all kinds.
var pool = []string{
	"sub A B", "sub B C", "sub AB* C", "sub 1 AB+", "sub C A~", "same A B", "same AB- 0", "same C AB+", "same AB- BA-",
	"least A 1", "least B 2", "least AB-C- 1", "least 1 3", "least C~ 2", "most A 0", "most B 1", "most AB+ 2", "most 1 4", "most C 3",
	"nomore A B 0", "nomore B A -1", "nomore A C 1", "nomore AB+ C -1", "nomore C~ B -2", "nomore 1 A 1", "most 0 -1", "least A 7",
}

// chooser answers numbers from 0 to below n, one behind the other, always the same ones.
func chooser() func(n int) int {
	state := uint64(1)
	return func(n int) int {
		state = state*6364136223846793005 + 1442695040888963407
		return int(state >> 33 % uint64(n))
	}
}

// chosen is a right formula of up to so many atoms of the pool.
func chosen(t *testing.T, choose func(n int) int, atoms int) api.Form {
	t.Helper()
	var texts []string
	for range 1 + choose(atoms) {
		texts = append(texts, pool[choose(len(pool))])
	}
	two := func() int { return []int{and, or, and, then}[choose(4)] }
	code, depth, most := []int{choose(len(texts))}, 1, 1+choose(maxCode)
	// Each formula but one needs one more sign, that takes it.
	for len(code)+depth+1 <= most {
		switch k := choose(7); {
		case k == 0:
			code = append(code, no)
		case k <= 3 && depth >= 2:
			code, depth = append(code, two()), depth-1
		default:
			code, depth = append(code, choose(len(texts))), depth+1
		}
	}
	for range depth - 1 {
		code = append(code, two())
	}
	return of(t, texts, code...)
}

// chosenTerm is a right term of up to twelve signs.
func chosenTerm(choose func(n int) int) []int {
	s, depth, most := []int{choose(5)}, 1, 1+choose(maxTerm)
	for len(s)+depth+1 <= most {
		switch k := choose(6); {
		case k == 0:
			s = append(s, 8)
		case k <= 2 && depth >= 2:
			s, depth = append(s, 5+choose(3)), depth-1
		default:
			s, depth = append(s, choose(5)), depth+1
		}
	}
	for range depth - 1 {
		s = append(s, 5+choose(3))
	}
	return s
}

// sizes has how many things a term has, in each of the worlds in which a formula holds.
func sizes(t *testing.T, f api.Form, s []int, list []api.World) (out []int) {
	t.Helper()
	for _, w := range list {
		is, err := form.Holds(f, w)
		if err != nil {
			t.Fatalf("Holds(%v, %v): got %v", f, w, err)
		}
		value, err := term.Value(s, w)
		if err != nil {
			t.Fatalf("Value(%v, %v): got %v", s, w, err)
		}
		if is {
			out = append(out, bits.OnesCount(uint(value)))
		}
	}
	return out
}

// askSizes asks for what the sizes one by one say.
func askSizes(t *testing.T, f api.Form, s []int, u int, list []int) {
	t.Helper()
	if len(list) == 0 {
		askWrong(t, f, s, u, api.ErrNone)
		return
	}
	askBoth(t, f, s, u, slices.Min(list), slices.Max(list))
}

// TestOneByOne: against every world of up to three things.
func TestOneByOne(t *testing.T) {
	var lists [4][]api.World
	for u := range lists {
		lists[u] = every(u)
	}
	choose := chooser()
	var none, exact, free int
	for range 1500 {
		f, s, u := chosen(t, choose, maxAtoms), chosenTerm(choose), choose(len(lists))
		list := sizes(t, f, s, lists[u])
		askSizes(t, f, s, u, list)
		switch {
		case len(list) == 0:
			none++
		case slices.Min(list) == slices.Max(list):
			exact++
		default:
			free++
		}
	}
	if min(none, exact, free) < 50 {
		t.Errorf("too few of a kind: none %d, exact %d, free %d", none, exact, free)
	}
}

// TestMoreThings: against every world of four things, and of all that there may be.
func TestMoreThings(t *testing.T) {
	choose := chooser()
	list := every(4)
	for range 40 {
		f, s := chosen(t, choose, 4), chosenTerm(choose)
		askSizes(t, f, s, 4, sizes(t, f, s, list))
	}
	f, s := all(t, "nomore A B -1", "nomore B C -1", "most AC+ 5"), signs(t, "AB+C-")
	askSizes(t, f, s, maxThings, sizes(t, f, s, every(maxThings)))
}

// justSo says that a term has just so many things.
func justSo(s []int, many int) api.Form {
	return api.Form{
		Atoms: []api.Atom{{What: 3, S: s, N: many}, {What: 4, S: s, N: many}},
		Code:  []int{0, 1, and},
	}
}

// TestBothAreReached: of each number of things; and there is no world with fewer, or with more.
func TestBothAreReached(t *testing.T) {
	choose := chooser()
	for range 60 {
		f, s := chosen(t, choose, maxAtoms), chosenTerm(choose)
		for u := range maxThings + 1 {
			var there []int
			for many := range u + 1 {
				open, err := core.Open([]api.Form{f, justSo(s, many)}, u)
				if err != nil {
					t.Fatalf("Open: got %v", err)
				}
				if open {
					there = append(there, many)
				}
			}
			askSizes(t, f, s, u, there)
		}
	}
}

// TestTheOthers: what is not in the term is all that is left.
func TestTheOthers(t *testing.T) {
	choose := chooser()
	for range 100 {
		f, u := chosen(t, choose, maxAtoms), choose(maxThings+1)
		s := []int{choose(3), choose(3), 5 + choose(3)}
		others := append(slices.Clone(s), 8)
		got, err := Of(f, s, u)
		if err != nil {
			askWrong(t, f, others, u, plain.Told(err))
			continue
		}
		askBoth(t, f, others, u, u-got.Most, u-got.Least)
	}
}

// TestLongest: twelve signs of a term, six atoms, and twenty signs of a Code are not too many; nor is it of matter how many cubes there are.
func TestLongest(t *testing.T) {
	nots := append([]int{0}, slices.Repeat([]int{8}, maxTerm-1)...)
	noneInA := of(t, []string{"least A 1"}, append([]int{0}, slices.Repeat([]int{no}, maxCode-1)...)...)
	code := []int{1, 4, and, 3, 2, 5, or, and, 0, or, and, no, 5, 5, then, and}
	noneInB := of(t, []string{"least A 0", "least B 1", "least C 0", "sub 0 A", "sub 0 B", "sub 0 C"}, code...)
	never := of(t, []string{"least A 0", "least B 0", "least C 0", "sub 0 A", "sub 0 B", "sub 0 C"}, code...)
	for _, f := range []api.Form{noneInB, never} {
		if _, err := cubes.Of(f); plain.Told(err) != api.ErrFull {
			t.Fatalf("cubes.Of(%v): got %v", f, err)
		}
	}
	for u := range maxThings + 1 {
		askBoth(t, noneInA, nots, u, u, u)
		askBoth(t, noneInA, []int{1}, u, 0, u)
		askBoth(t, noneInB, []int{1}, u, 0, 0)
		askBoth(t, noneInB, nots, u, 0, u)
		askWrong(t, never, nots, u, api.ErrNone)
	}
}

// wrongFormula is none, and what is wrong with it.
type wrongFormula struct {
	f     api.Form
	wrong api.Errno
}

// wrongFormulas are formulas that are none, and what chapter 4 says of them.
func wrongFormulas() []wrongFormula {
	a := api.Atom{What: 3, S: []int{0}, N: 1}
	one := []api.Atom{a}
	return []wrongFormula{
		{api.Form{}, api.ErrNone},
		{api.Form{Atoms: one}, api.ErrNone},
		{api.Form{Atoms: one, Code: []int{}}, api.ErrNone},
		{api.Form{Code: []int{0}}, api.ErrNone},
		{api.Form{Atoms: []api.Atom{{What: 3}}, Code: []int{0}}, api.ErrNone},
		{api.Form{Atoms: []api.Atom{a, {What: 1, S: []int{0}}}, Code: []int{0}}, api.ErrNone},
		{api.Form{Atoms: slices.Repeat(one, 7), Code: []int{0}}, api.ErrFull},
		{api.Form{Atoms: one, Code: append([]int{0}, slices.Repeat([]int{no}, maxCode)...)}, api.ErrFull},
		{api.Form{Atoms: []api.Atom{{What: 3, S: slices.Repeat([]int{0}, 13)}}, Code: []int{0}}, api.ErrFull},
		{api.Form{Atoms: []api.Atom{a, {}}, Code: []int{0}}, api.ErrRange},
		{api.Form{Atoms: []api.Atom{{What: 6, S: []int{0}}}, Code: []int{0}}, api.ErrRange},
		{api.Form{Atoms: []api.Atom{{What: 3, S: []int{9}}}, Code: []int{0}}, api.ErrRange},
		{api.Form{Atoms: []api.Atom{{What: 3, S: []int{0}, N: 21}}, Code: []int{0}}, api.ErrRange},
		{api.Form{Atoms: one, Code: []int{1}}, api.ErrRange},
		{api.Form{Atoms: one, Code: []int{-1}}, api.ErrRange},
		{api.Form{Atoms: one, Code: []int{14}}, api.ErrRange},
		{api.Form{Atoms: one, Code: []int{math.MinInt}}, api.ErrRange},
		{api.Form{Atoms: one, Code: []int{math.MaxInt}}, api.ErrRange},
		{api.Form{Atoms: []api.Atom{a, {What: 3, S: []int{0, 1}}}, Code: []int{0}}, api.ErrShape},
		{api.Form{Atoms: []api.Atom{{What: 3, S: []int{0}, T: []int{0}}}, Code: []int{0}}, api.ErrShape},
		{api.Form{Atoms: one, Code: []int{0, 0}}, api.ErrShape},
		{api.Form{Atoms: one, Code: []int{no}}, api.ErrShape},
		{api.Form{Atoms: one, Code: []int{0, and}}, api.ErrShape},
	}
}

// wrongTerm is none, and what is wrong with it.
type wrongTerm struct {
	s     []int
	wrong api.Errno
}

// wrongTerms are rows of signs that are no term, and what chapter 2 says of them.
func wrongTerms() []wrongTerm {
	return []wrongTerm{
		{nil, api.ErrNone},
		{[]int{}, api.ErrNone},
		{append([]int{0}, slices.Repeat([]int{8}, maxTerm)...), api.ErrFull},
		{make([]int, 1<<10), api.ErrFull},
		{slices.Repeat([]int{9}, maxTerm+1), api.ErrFull},
		{[]int{-1}, api.ErrRange},
		{[]int{9}, api.ErrRange},
		{[]int{5, 9}, api.ErrRange},
		{[]int{0, math.MinInt, 5}, api.ErrRange},
		{[]int{math.MaxInt}, api.ErrRange},
		{[]int{5}, api.ErrShape},
		{[]int{8}, api.ErrShape},
		{[]int{0, 1}, api.ErrShape},
		{[]int{0, 5, 1}, api.ErrShape},
		{[]int{0, 1, 5, 5}, api.ErrShape},
		{slices.Repeat([]int{2}, maxTerm), api.ErrShape},
	}
}

// TestWrongFormulas: told ahead of a wrong term, and of wrong things.
func TestWrongFormulas(t *testing.T) {
	for _, c := range wrongFormulas() {
		for _, u := range append([]int{0, 1, 3, maxThings}, wrongThings...) {
			askWrong(t, c.f, []int{0}, u, c.wrong)
			for _, other := range wrongTerms() {
				askWrong(t, c.f, other.s, u, c.wrong)
			}
		}
	}
}

// TestWrongTerms: told ahead of wrong things, and of that there is none.
func TestWrongTerms(t *testing.T) {
	for _, f := range []api.Form{all(t, "least A 1"), all(t, "sub A A"), all(t, "least A 7"), all(t, "least A 1", "most A 0")} {
		for _, c := range wrongTerms() {
			for _, u := range append([]int{0, 1, 3, maxThings}, wrongThings...) {
				askWrong(t, f, c.s, u, c.wrong)
			}
		}
	}
}

// TestWrongThings: told of formulas that hold in all, in some and in no worlds, and of terms that have always as many.
func TestWrongThings(t *testing.T) {
	for _, f := range []api.Form{all(t, "sub A A"), all(t, "least A 1"), all(t, "least A 7"), all(t, "least A 1", "most A 0")} {
		for _, s := range []string{"A", "0", "1", "AB+~"} {
			for _, u := range wrongThings {
				askWrong(t, f, signs(t, s), u, api.ErrRange)
			}
		}
	}
}

// spare has a list, with wrong numbers in the memory behind its length.
func spare(list []int) []int {
	return append(slices.Clone(list), 99, -99, 12)[:len(list)]
}

// roomy has a formula whose lists all have something wrong behind them.
func roomy(f api.Form) api.Form {
	f.Code = spare(f.Code)
	for i := range f.Atoms {
		f.Atoms[i].S, f.Atoms[i].T = spare(f.Atoms[i].S), spare(f.Atoms[i].T)
	}
	f.Atoms = append(f.Atoms, api.Atom{What: 9})[:len(f.Atoms)]
	return f
}

// whole is a formula with what lies behind its lists.
func whole(f api.Form) api.Form {
	f.Code, f.Atoms = f.Code[:cap(f.Code)], slices.Clone(f.Atoms[:cap(f.Atoms)])
	for i, a := range f.Atoms {
		f.Atoms[i].S, f.Atoms[i].T = a.S[:cap(a.S)], a.T[:cap(a.T)]
	}
	return f
}

// TestNothingIsWritten: into a formula, or a term, that is handed in, or what lies behind its lists; and that is not read.
func TestNothingIsWritten(t *testing.T) {
	made := func() (api.Form, []int) {
		f := of(t, []string{"sub A B", "nomore C A -1", "least AB+ 2"}, 0, 1, and, 2, no, or)
		return roomy(f), spare(signs(t, "AB+C-~"))
	}
	f, s := made()
	keepF, keepS := made()
	for u := -1; u <= maxThings+1; u++ {
		Of(f, s, u)
		Exact(f, s, u)
	}
	if !reflect.DeepEqual(whole(f), whole(keepF)) || !slices.Equal(s[:cap(s)], keepS[:cap(keepS)]) {
		t.Errorf("got %v %v, want %v %v", whole(f), s[:cap(s)], whole(keepF), keepS[:cap(keepS)])
	}
	askSizes(t, f, s, 3, sizes(t, f, s, every(3)))
}

// TestSameAgain: what is answered does not hang on calls before, nor on that one of them was wrong.
func TestSameAgain(t *testing.T) {
	f := all(t, "least A 2", "most A 3")
	for range 3 {
		askBoth(t, f, []int{0}, 5, 2, 3)
		askBoth(t, f, []int{0}, 2, 2, 2)
		askWrong(t, f, []int{0}, 1, api.ErrNone)
		askWrong(t, f, []int{0}, 7, api.ErrRange)
		askWrong(t, f, []int{0, 0}, 5, api.ErrShape)
		askWrong(t, api.Form{}, []int{0}, 5, api.ErrNone)
	}
}
