package some

import (
	"math"
	"reflect"
	"slices"
	"testing"

	"vennhouse/api"
	"vennhouse/atom"
	"vennhouse/cubes"
	"vennhouse/form"
	"vennhouse/plain"
)

// The numbers as chapters 1, 2 and 4 and package api write them, so that the names are held against them, too.
const (
	and  = 10
	or   = 11
	no   = 12
	then = 13

	names     = 3
	maxThings = 6
	maxAtoms  = 6
	maxCode   = 20
)

// wrongNames are numbers that are no name.
var wrongNames = []int{-1, -2, -3, 3, 4, 5, 8, 64, 1 << 32, 1<<32 + 1, -1 << 32, math.MinInt, math.MinInt + 1, math.MaxInt - 1, math.MaxInt}

// of has atoms, as texts, and a Code.
func of(t *testing.T, texts []string, code ...int) api.Form {
	t.Helper()
	f := api.Form{Code: code}
	for _, text := range texts {
		a, err := atom.Parse(text)
		if err != nil {
			t.Fatalf("Parse(%q): got %v", text, err)
		}
		f.Atoms = append(f.Atoms, a)
	}
	return f
}

// all of some atoms, as texts, put together.
func all(t *testing.T, texts ...string) api.Form {
	t.Helper()
	code := []int{0}
	for i := range len(texts) - 1 {
		code = append(code, i+1, and)
	}
	return of(t, texts, code...)
}

// world of so many things, and of what A, B and C have.
func world(things, a, b, c int) api.World {
	return api.World{Things: things, Has: [3]int{a, b, c}}
}

// every world of u things.
func every(u int) (out []api.World) {
	for a := range 1 << u {
		for b := range 1 << u {
			for c := range 1 << u {
				out = append(out, world(u, a, b, c))
			}
		}
	}
	return out
}

func askIs(t *testing.T, f api.Form, name int, w api.World, want bool, wrong api.Errno) {
	t.Helper()
	got, err := Is(f, name, w)
	if got != want || plain.Told(err) != wrong {
		t.Errorf("Is(%v, %d, %v): got %v %v, want %v %v", f, name, w, got, plain.Told(err), want, wrong)
	}
}

func askFirst(t *testing.T, f api.Form, name int, w api.World, want int, wrong api.Errno) {
	t.Helper()
	got, err := First(f, name, w)
	if got != want || plain.Told(err) != wrong {
		t.Errorf("First(%v, %d, %v): got %d %v, want %d %v", f, name, w, got, plain.Told(err), want, wrong)
	}
}

func askEach(t *testing.T, f api.Form, name int, w api.World, want bool, wrong api.Errno) {
	t.Helper()
	got, err := Each(f, name, w)
	if got != want || plain.Told(err) != wrong {
		t.Errorf("Each(%v, %d, %v): got %v %v, want %v %v", f, name, w, got, plain.Told(err), want, wrong)
	}
}

// askAll asks all three of what the sets say with which it holds, the least one first.
func askAll(t *testing.T, f api.Form, name int, w api.World, list []int) {
	t.Helper()
	askIs(t, f, name, w, len(list) > 0, api.OK)
	if len(list) > 0 {
		askFirst(t, f, name, w, list[0], api.OK)
	} else {
		askFirst(t, f, name, w, 0, api.ErrNone)
	}
	askEach(t, f, name, w, len(list) == 1<<w.Things, api.OK)
}

// askWrong asks for an error of all three.
func askWrong(t *testing.T, f api.Form, name int, w api.World, wrong api.Errno) {
	t.Helper()
	askIs(t, f, name, w, false, wrong)
	askFirst(t, f, name, w, 0, wrong)
	askEach(t, f, name, w, false, wrong)
}

func TestNumbersOfTheChapter(t *testing.T) {
	got := [...]int{api.And, api.Or, api.No, api.Then, api.A, api.B, api.C, api.Names, api.MaxThings, api.MaxAtoms, api.MaxCode}
	want := [...]int{and, or, no, then, 0, 1, 2, names, maxThings, maxAtoms, maxCode}
	if got != want {
		t.Errorf("numbers: got %v, want %v", got, want)
	}
	if api.ErrRange != 1 || api.ErrNone != 5 {
		t.Errorf("errors: got %d %d", int(api.ErrRange), int(api.ErrNone))
	}
}

// TestErrorIsNil: where nothing is wrong the error is nil, not an OK in an error; nor is it wrong that it is not so.
func TestErrorIsNil(t *testing.T) {
	w := world(2, 0, 1, 2)
	for _, f := range []api.Form{all(t, "sub A A"), all(t, "least A 1"), all(t, "least A 3")} {
		if _, err := Is(f, 0, w); err != nil {
			t.Errorf("Is(%v): got %v", f, err)
		}
		if _, err := Each(f, 0, w); err != nil {
			t.Errorf("Each(%v): got %v", f, err)
		}
	}
	if _, err := First(all(t, "least A 1"), 0, w); err != nil {
		t.Errorf("First: got %v", err)
	}
}

// TestByHand: first is -1 where there is no set.
func TestByHand(t *testing.T) {
	for _, c := range []struct {
		texts []string
		name  int
		w     api.World
		first int
		each  bool
	}{
		{[]string{"least A 1"}, 0, world(3, 0, 0, 0), 1, false},
		{[]string{"least A 1"}, 0, world(3, 7, 0, 0), 1, false},
		{[]string{"least A 1"}, 1, world(3, 0, 7, 7), -1, false},
		{[]string{"least A 1"}, 1, world(3, 4, 0, 0), 0, true},
		{[]string{"least A 2"}, 0, world(3, 0, 0, 0), 3, false},
		{[]string{"least A 3"}, 0, world(3, 0, 0, 0), 7, false},
		{[]string{"least A 4"}, 0, world(3, 7, 7, 7), -1, false},
		{[]string{"most A 2"}, 0, world(3, 7, 0, 0), 0, false},
		{[]string{"most A 3"}, 0, world(3, 7, 0, 0), 0, true},
		{[]string{"most A -1"}, 0, world(3, 0, 0, 0), -1, false},
		{[]string{"sub A B"}, 0, world(4, 15, 5, 0), 0, false},
		{[]string{"sub A B"}, 0, world(4, 15, 15, 0), 0, true},
		{[]string{"sub A B"}, 1, world(4, 10, 0, 0), 10, false},
		{[]string{"sub A B"}, 1, world(4, 0, 0, 0), 0, true},
		{[]string{"sub A B"}, 2, world(4, 10, 5, 0), -1, false},
		{[]string{"sub A B"}, 2, world(4, 10, 11, 0), 0, true},
		{[]string{"same C AB+"}, 2, world(4, 9, 3, 0), 11, false},
		{[]string{"same C AB*"}, 2, world(4, 9, 3, 15), 1, false},
		{[]string{"same C A~"}, 2, world(6, 1, 0, 0), 62, false},
		{[]string{"same C A~"}, 2, world(6, 0, 0, 0), 63, false},
		{[]string{"same AC- B"}, 2, world(4, 14, 6, 0), 8, false},
		{[]string{"same AC- B"}, 2, world(4, 14, 7, 0), -1, false},
		{[]string{"same AC- B"}, 0, world(4, 0, 6, 9), 6, false},
		{[]string{"same AC- B"}, 0, world(4, 0, 6, 10), -1, false},
		{[]string{"nomore A B -1"}, 1, world(4, 6, 0, 0), 7, false},
		{[]string{"nomore A B -1"}, 0, world(4, 15, 1, 0), 0, false},
		{[]string{"nomore A B -1"}, 0, world(4, 15, 0, 0), -1, false},
		{[]string{"nomore A B 4"}, 0, world(4, 15, 0, 0), 0, true},
		{[]string{"least B 2", "same AB* 0"}, 1, world(4, 5, 0, 0), 10, false},
		{[]string{"least B 2", "same AB* 0"}, 1, world(4, 13, 0, 0), -1, false},
		{[]string{"least B 2", "same AB* 0", "sub B C"}, 1, world(6, 9, 0, 54), 6, false},
		{[]string{"least BA- 1", "least BC- 1", "most B 1"}, 1, world(6, 7, 0, 11), 16, false},
		{[]string{"sub A A"}, 0, world(0, 0, 0, 0), 0, true},
		{[]string{"least A 0"}, 0, world(0, 0, 0, 0), 0, true},
		{[]string{"least A 1"}, 0, world(0, 0, 0, 0), -1, false},
	} {
		f := all(t, c.texts...)
		askEach(t, f, c.name, c.w, c.each, api.OK)
		askIs(t, f, c.name, c.w, c.first >= 0, api.OK)
		if c.first >= 0 {
			askFirst(t, f, c.name, c.w, c.first, api.OK)
		} else {
			askFirst(t, f, c.name, c.w, 0, api.ErrNone)
		}
	}
}

// TestEverySet: a formula that holds with that set alone, and one that fails with it alone, for each set of each number of things.
func TestEverySet(t *testing.T) {
	for u := range maxThings + 1 {
		for set := range 1 << u {
			for name := range names {
				other := (name + 1) % names
				w := api.World{Things: u}
				w.Has[other] = set
				same := api.Atom{What: 2, S: []int{name}, T: []int{other}}
				askAll(t, api.Form{Atoms: []api.Atom{same}, Code: []int{0}}, name, w, []int{set})
				differs := api.Form{Atoms: []api.Atom{same}, Code: []int{0, no}}
				others := slices.DeleteFunc(upTo(1<<u), func(s int) bool { return s == set })
				askAll(t, differs, name, w, others)
			}
		}
	}
}

// upTo has the numbers below n.
func upTo(n int) (out []int) {
	for i := range n {
		out = append(out, i)
	}
	return out
}

// pool of atoms of all kinds.
var pool = []string{
	"sub A B", "sub B C", "sub AB* C", "sub 1 AB+", "sub C A~", "same A B", "same AB- 0", "same C AB+", "same AB- BA-",
	"least A 1", "least B 2", "least AB-C- 1", "least 1 3", "least C~ 2", "most A 0", "most B 1", "most AB+ 2", "most 1 4", "most C 3",
	"nomore A B 0", "nomore B A -1", "nomore A C 1", "nomore AB+ C -1", "nomore C~ B -2", "nomore 1 A 1", "most 0 -1", "least A 7",
}

// chooser answers numbers from 0 to below n, one behind the other, always the same ones.
func chooser() func(n int) int {
	state := uint64(1)
	return func(n int) int {
		state = state*6364136223846793005 + 1442695040888963407
		return int(state >> 33 % uint64(n))
	}
}

// chosen is a right formula of up to so many atoms of the pool.
func chosen(t *testing.T, choose func(n int) int, atoms int) api.Form {
	t.Helper()
	var texts []string
	for range 1 + choose(atoms) {
		texts = append(texts, pool[choose(len(pool))])
	}
	two := func() int { return []int{and, or, and, then}[choose(4)] }
	code, depth, most := []int{choose(len(texts))}, 1, 1+choose(maxCode)
	// Each formula but one needs one more sign, that takes it.
	for len(code)+depth+1 <= most {
		switch k := choose(7); {
		case k == 0:
			code = append(code, no)
		case k <= 3 && depth >= 2:
			code, depth = append(code, two()), depth-1
		default:
			code, depth = append(code, choose(len(texts))), depth+1
		}
	}
	for range depth - 1 {
		code = append(code, two())
	}
	return of(t, texts, code...)
}

// with has the sets for a name with which a formula holds, asked one by one.
func with(t *testing.T, f api.Form, name int, w api.World) (out []int) {
	t.Helper()
	for set := range 1 << w.Things {
		w.Has[name] = set
		is, err := form.Holds(f, w)
		if err != nil {
			t.Fatalf("Holds(%v, %v): got %v", f, w, err)
		}
		if is {
			out = append(out, set)
		}
	}
	return out
}

// TestOneByOne: against every set, of worlds of all numbers of things.
func TestOneByOne(t *testing.T) {
	choose := chooser()
	var none, some, each int
	for range 4000 {
		f, name, u := chosen(t, choose, maxAtoms), choose(names), choose(maxThings+1)
		w := world(u, choose(1<<u), choose(1<<u), choose(1<<u))
		list := with(t, f, name, w)
		askAll(t, f, name, w, list)
		switch len(list) {
		case 0:
			none++
		case 1 << u:
			each++
		default:
			some++
		}
	}
	if min(none, some, each) < 400 {
		t.Errorf("too few of a kind: none %d, some %d, each %d", none, some, each)
	}
}

// TestEveryWorld: of few things, for each name.
func TestEveryWorld(t *testing.T) {
	choose := chooser()
	for u := range 3 {
		list := every(u)
		for range 30 {
			f := chosen(t, choose, maxAtoms)
			for _, w := range list {
				for name := range names {
					askAll(t, f, name, w, with(t, f, name, w))
				}
			}
		}
	}
}

// TestWhatItHasForTheName: does not matter, as long as it is a set.
func TestWhatItHasForTheName(t *testing.T) {
	choose := chooser()
	for range 40 {
		f, name, u := chosen(t, choose, maxAtoms), choose(names), choose(maxThings+1)
		w := world(u, choose(1<<u), choose(1<<u), choose(1<<u))
		list := with(t, f, name, w)
		for set := range 1 << u {
			w.Has[name] = set
			askAll(t, f, name, w, list)
		}
	}
}

// TestTheContrary: it holds with each, if its contrary does with none.
func TestTheContrary(t *testing.T) {
	choose := chooser()
	for range 500 {
		f, name, u := chosen(t, choose, maxAtoms), choose(names), choose(maxThings+1)
		contrary, err := form.Negate(f)
		if err != nil {
			continue
		}
		w := world(u, choose(1<<u), choose(1<<u), choose(1<<u))
		is, err := Is(contrary, name, w)
		if err != nil {
			t.Fatalf("Is: got %v", err)
		}
		askEach(t, f, name, w, !is, api.OK)
	}
}

// TestLongest: six atoms, and twenty signs of a Code are not too many; nor is it of matter how many cubes there are.
func TestLongest(t *testing.T) {
	noneInA := of(t, []string{"least A 1"}, append([]int{0}, slices.Repeat([]int{no}, maxCode-1)...)...)
	code := []int{1, 4, and, 3, 2, 5, or, and, 0, or, and, no, 5, 5, then, and}
	noneInB := of(t, []string{"least A 0", "least B 1", "least C 0", "sub 0 A", "sub 0 B", "sub 0 C"}, code...)
	if _, err := cubes.Of(noneInB); plain.Told(err) != api.ErrFull {
		t.Fatalf("cubes.Of(%v): got %v", noneInB, err)
	}
	for u := 1; u <= maxThings; u++ {
		w := world(u, 1, 1, 1)
		askAll(t, noneInA, 0, w, []int{0})
		askAll(t, noneInA, 1, w, nil)
		askAll(t, noneInB, 1, w, []int{0})
		askAll(t, noneInB, 0, w, nil)
	}
}

// wrongFormula is none, and what is wrong with it.
type wrongFormula struct {
	f     api.Form
	wrong api.Errno
}

// wrongFormulas are formulas that are none, and what chapter 4 says of them.
func wrongFormulas() []wrongFormula {
	a := api.Atom{What: 3, S: []int{0}, N: 1}
	one := []api.Atom{a}
	return []wrongFormula{
		{api.Form{}, api.ErrNone},
		{api.Form{Atoms: one}, api.ErrNone},
		{api.Form{Atoms: one, Code: []int{}}, api.ErrNone},
		{api.Form{Code: []int{0}}, api.ErrNone},
		{api.Form{Atoms: []api.Atom{{What: 3}}, Code: []int{0}}, api.ErrNone},
		{api.Form{Atoms: []api.Atom{a, {What: 1, S: []int{0}}}, Code: []int{0}}, api.ErrNone},
		{api.Form{Atoms: slices.Repeat(one, 7), Code: []int{0}}, api.ErrFull},
		{api.Form{Atoms: one, Code: append([]int{0}, slices.Repeat([]int{no}, maxCode)...)}, api.ErrFull},
		{api.Form{Atoms: []api.Atom{{What: 3, S: slices.Repeat([]int{0}, 13)}}, Code: []int{0}}, api.ErrFull},
		{api.Form{Atoms: []api.Atom{a, {}}, Code: []int{0}}, api.ErrRange},
		{api.Form{Atoms: []api.Atom{{What: 6, S: []int{0}}}, Code: []int{0}}, api.ErrRange},
		{api.Form{Atoms: []api.Atom{{What: 3, S: []int{9}}}, Code: []int{0}}, api.ErrRange},
		{api.Form{Atoms: []api.Atom{{What: 3, S: []int{0}, N: 21}}, Code: []int{0}}, api.ErrRange},
		{api.Form{Atoms: one, Code: []int{1}}, api.ErrRange},
		{api.Form{Atoms: one, Code: []int{-1}}, api.ErrRange},
		{api.Form{Atoms: one, Code: []int{14}}, api.ErrRange},
		{api.Form{Atoms: one, Code: []int{math.MinInt}}, api.ErrRange},
		{api.Form{Atoms: one, Code: []int{math.MaxInt}}, api.ErrRange},
		{api.Form{Atoms: []api.Atom{a, {What: 3, S: []int{0, 1}}}, Code: []int{0}}, api.ErrShape},
		{api.Form{Atoms: []api.Atom{{What: 3, S: []int{0}, T: []int{0}}}, Code: []int{0}}, api.ErrShape},
		{api.Form{Atoms: one, Code: []int{0, 0}}, api.ErrShape},
		{api.Form{Atoms: one, Code: []int{no}}, api.ErrShape},
		{api.Form{Atoms: one, Code: []int{0, and}}, api.ErrShape},
	}
}

// wrongWorlds are worlds that are none, and what is wrong is in each place once.
func wrongWorlds() (out []api.World) {
	for _, things := range []int{-1, -2, 7, 8, 62, 63, 64, 1 << 32, math.MinInt, math.MaxInt} {
		out = append(out, world(things, 0, 0, 0))
	}
	for u := range maxThings + 1 {
		for name := range names {
			for _, set := range []int{-1, 1 << u, 1<<u + 1, 1 << 32, math.MinInt, math.MaxInt} {
				w := api.World{Things: u}
				w.Has[name] = set
				out = append(out, w)
			}
		}
	}
	return out
}

// TestWrongFormulas: told ahead of a wrong name, and of a wrong world.
func TestWrongFormulas(t *testing.T) {
	right := []api.World{world(0, 0, 0, 0), world(3, 1, 2, 4), world(maxThings, 63, 0, 21)}
	for _, c := range wrongFormulas() {
		for _, w := range append(right, wrongWorlds()...) {
			for _, name := range append([]int{0, 1, 2}, wrongNames...) {
				askWrong(t, c.f, name, w, c.wrong)
			}
		}
	}
}

// rightFormulas hold always, with some sets, and never.
func rightFormulas(t *testing.T) []api.Form {
	t.Helper()
	return []api.Form{all(t, "sub A A"), all(t, "least A 1"), all(t, "sub A B", "sub B C"), all(t, "least A 7"), all(t, "least A 1", "most A 0")}
}

// TestWrongNames: told whatever the formula says, and of a world that is wrong, too.
func TestWrongNames(t *testing.T) {
	for _, f := range rightFormulas(t) {
		for _, name := range wrongNames {
			for u := range maxThings + 1 {
				askWrong(t, f, name, world(u, 0, 1<<u-1, 0), api.ErrRange)
			}
			for _, w := range wrongWorlds() {
				askWrong(t, f, name, w, api.ErrRange)
			}
		}
	}
}

// TestWrongWorlds: told also of what it has for the name, and for a name of which the formula says nothing.
func TestWrongWorlds(t *testing.T) {
	for _, f := range rightFormulas(t) {
		for _, w := range wrongWorlds() {
			for name := range names {
				askWrong(t, f, name, w, api.ErrRange)
			}
		}
	}
}

// spare has a list, with wrong numbers in the memory behind its length.
func spare(list []int) []int {
	return append(slices.Clone(list), 99, -99, 12)[:len(list)]
}

// roomy has a formula whose lists all have something wrong behind them.
func roomy(f api.Form) api.Form {
	f.Code = spare(f.Code)
	for i := range f.Atoms {
		f.Atoms[i].S, f.Atoms[i].T = spare(f.Atoms[i].S), spare(f.Atoms[i].T)
	}
	f.Atoms = append(f.Atoms, api.Atom{What: 9})[:len(f.Atoms)]
	return f
}

// whole is a formula with what lies behind its lists.
func whole(f api.Form) api.Form {
	f.Code, f.Atoms = f.Code[:cap(f.Code)], slices.Clone(f.Atoms[:cap(f.Atoms)])
	for i, a := range f.Atoms {
		f.Atoms[i].S, f.Atoms[i].T = a.S[:cap(a.S)], a.T[:cap(a.T)]
	}
	return f
}

// TestNothingIsWritten: into a formula that is handed in, or what lies behind its lists; and that is not read.
func TestNothingIsWritten(t *testing.T) {
	made := func() api.Form {
		return roomy(of(t, []string{"sub A B", "nomore C A -1", "least AB+ 2"}, 0, 1, and, 2, no, or))
	}
	f, keep := made(), made()
	for u := -1; u <= maxThings+1; u++ {
		for name := -1; name <= names; name++ {
			Is(f, name, api.World{Things: u})
			First(f, name, api.World{Things: u})
			Each(f, name, api.World{Things: u})
		}
	}
	if !reflect.DeepEqual(whole(f), whole(keep)) {
		t.Errorf("got %v, want %v", whole(f), whole(keep))
	}
	for name := range names {
		w := world(4, 9, 3, 6)
		askAll(t, f, name, w, with(t, f, name, w))
	}
}

// TestSameAgain: what is answered does not hang on calls before, nor on that one of them was wrong.
func TestSameAgain(t *testing.T) {
	f := all(t, "sub A B", "least B 2")
	for range 3 {
		askAll(t, f, 1, world(2, 2, 0, 0), []int{3})
		askAll(t, f, 0, world(2, 2, 3, 0), []int{0, 1, 2, 3})
		askAll(t, f, 0, world(2, 2, 1, 0), nil)
		askWrong(t, f, 3, world(2, 2, 0, 0), api.ErrRange)
		askWrong(t, f, 1, world(2, 2, 4, 0), api.ErrRange)
		askWrong(t, api.Form{}, 1, world(2, 2, 0, 0), api.ErrNone)
	}
}
