package worlds

import (
	"math"
	"reflect"
	"slices"
	"testing"

	"vennhouse/api"
	"vennhouse/atom"
	"vennhouse/cubes"
	"vennhouse/form"
	"vennhouse/model"
	"vennhouse/plain"
)

// The numbers as chapters 1, 4 and 6 and package api write them, so that the names are held against them, too.
const (
	and  = 10
	or   = 11
	no   = 12
	then = 13

	cells     = 8
	maxThings = 6
	maxCode   = 20
)

// howMany worlds there are of 0 to 6 things.
var howMany = [maxThings + 1]int{1, 8, 64, 512, 4096, 32768, 262144}

// wrongThings are numbers of things that are none.
var wrongThings = []int{
	-1, -2, -6, 7, 8, 9, 62, 63, 64, 1 << 31, 1 << 32, 1 << 62, -1 << 32,
	math.MinInt, math.MinInt + 1, math.MinInt + 6, math.MaxInt - 1, math.MaxInt,
}

// world of so many things, with what A, B and C have.
func world(things, a, b, c int) api.World {
	return api.World{Things: things, Has: [3]int{a, b, c}}
}

// every world of u things.
func every(u int) (out []api.World) {
	for a := range 1 << u {
		for b := range 1 << u {
			for c := range 1 << u {
				out = append(out, world(u, a, b, c))
			}
		}
	}
	return out
}

// of has atoms, as texts, and a Code.
func of(t *testing.T, texts []string, code ...int) api.Form {
	t.Helper()
	f := api.Form{Code: code}
	for _, text := range texts {
		a, err := atom.Parse(text)
		if err != nil {
			t.Fatalf("Parse(%q): got %v", text, err)
		}
		f.Atoms = append(f.Atoms, a)
	}
	return f
}

func askAll(t *testing.T, u, want int, wrong api.Errno) {
	t.Helper()
	got, err := All(u)
	if got != want || plain.Told(err) != wrong {
		t.Errorf("All(%d): got %d %v, want %d %v", u, got, plain.Told(err), want, wrong)
	}
}

func askAlike(t *testing.T, w api.World, want int, wrong api.Errno) {
	t.Helper()
	got, err := Alike(w)
	if got != want || plain.Told(err) != wrong {
		t.Errorf("Alike(%v): got %d %v, want %d %v", w, got, plain.Told(err), want, wrong)
	}
}

func askOf(t *testing.T, f api.Form, u, want int, wrong api.Errno) {
	t.Helper()
	got, err := Of(f, u)
	if got != want || plain.Told(err) != wrong {
		t.Errorf("Of(%v, %d): got %d %v, want %d %v", f, u, got, plain.Told(err), want, wrong)
	}
}

func TestNumbersOfTheChapter(t *testing.T) {
	got := [...]int{api.And, api.Or, api.No, api.Then, api.Fields, api.MaxThings, api.MaxCode}
	want := [...]int{and, or, no, then, cells, maxThings, maxCode}
	if got != want {
		t.Errorf("numbers: got %v, want %v", got, want)
	}
}

// TestErrorIsNil: where nothing is wrong the error is nil, not an OK in an error.
func TestErrorIsNil(t *testing.T) {
	if _, err := All(2); err != nil {
		t.Errorf("All: got %v", err)
	}
	if _, err := Alike(world(2, 1, 2, 3)); err != nil {
		t.Errorf("Alike: got %v", err)
	}
	for _, text := range []string{"least A 1", "least A 7"} {
		if _, err := Of(of(t, []string{text}, 0), 2); err != nil {
			t.Errorf("Of %q: got %v", text, err)
		}
	}
}

// TestAll: just as many as there are one by one.
func TestAll(t *testing.T) {
	for u, many := range howMany {
		askAll(t, u, many, api.OK)
		if one := len(every(u)); one != many {
			t.Errorf("one by one, %d things: got %d, want %d", u, one, many)
		}
	}
	for _, u := range wrongThings {
		askAll(t, u, 0, api.ErrRange)
	}
}

func TestAlikeByHand(t *testing.T) {
	for _, c := range []struct {
		w    api.World
		want int
	}{
		{world(0, 0, 0, 0), 1},
		{world(1, 1, 0, 1), 1},
		{world(2, 0, 0, 0), 1},
		{world(2, 3, 3, 3), 1},
		{world(2, 1, 0, 0), 2},
		{world(2, 2, 0, 0), 2},
		{world(3, 1, 2, 4), 6},
		{world(3, 1, 1, 1), 3},
		{world(4, 3, 5, 0), 24},
		{world(4, 3, 0, 0), 6},
		{world(4, 3, 3, 12), 6},
		{world(5, 1, 2, 0), 20},
		{world(5, 3, 12, 0), 30},
		{world(6, 0, 0, 0), 1},
		{world(6, 63, 63, 63), 1},
		{world(6, 7, 0, 0), 20},
		{world(6, 3, 12, 0), 90},
		{world(6, 1, 6, 0), 60},
		{world(6, 3, 4, 8), 180},
		// Two in one field, and each in a field of its own.
		{world(6, 10, 12, 48), 360},
		{world(6, 42, 38, 24), 360},
		{world(6, 10, 44, 48), 720},
		{world(6, 42, 52, 56), 720},
	} {
		askAlike(t, c.w, c.want, api.OK)
	}
}

// TestAlikeOfEach: of every world, against how many there are that have as many in each field.
func TestAlikeOfEach(t *testing.T) {
	for u := range maxThings + 1 {
		met := map[[cells]int]int{}
		for _, w := range every(u) {
			met[crossed(w)]++
		}
		for _, w := range every(u) {
			askAlike(t, w, met[crossed(w)], api.OK)
		}
	}
}

// crossed tells, thing by thing, how many lie in each field.
func crossed(w api.World) (n [cells]int) {
	for thing := range w.Things {
		field := 0
		for name, value := range []int{1, 2, 4} {
			if w.Has[name]/(1<<thing)%2 == 1 {
				field += value
			}
		}
		n[field]++
	}
	return n
}

func TestAlikeWrong(t *testing.T) {
	for _, u := range wrongThings {
		askAlike(t, world(u, 0, 0, 0), 0, api.ErrRange)
		askAlike(t, world(u, 1, 2, 3), 0, api.ErrRange)
	}
	for u := range maxThings + 1 {
		for name := range 3 {
			for _, set := range []int{-1, 1 << u, 1<<u + 1, 64, 1 << 32, math.MinInt, math.MaxInt} {
				w := world(u, 0, 0, 0)
				w.Has[name] = set
				askAlike(t, w, 0, api.ErrRange)
			}
		}
	}
}

func TestOfByHand(t *testing.T) {
	for _, c := range []struct {
		texts []string
		code  []int
		u     int
		want  int
	}{
		// Each thing lies in one of 8 fields, and of so many of these it may be.
		{[]string{"sub A B"}, []int{0}, 3, 216},
		{[]string{"sub A B"}, []int{0}, 6, 46656},
		{[]string{"same A B"}, []int{0}, 6, 4096},
		{[]string{"same A 0"}, []int{0}, 5, 1024},
		{[]string{"same AB+C+ 0"}, []int{0}, 6, 1},
		{[]string{"same AB*C* 1"}, []int{0}, 6, 1},
		{[]string{"sub A B", "sub B C"}, []int{0, 1, and}, 6, 4096},
		{[]string{"sub A B", "sub B A"}, []int{0, 1, or}, 2, 56},
		{[]string{"sub A B", "sub B A"}, []int{0, 1, then}, 2, 44},
		{[]string{"sub A B"}, []int{0, no}, 2, 28},
		// Two of three in A: 3 times 4 times 4 times 4.
		{[]string{"least A 2", "most A 2"}, []int{0, 1, and}, 3, 192},
		{[]string{"least A 3", "most A 3"}, []int{0, 1, and}, 6, 81920},
		{[]string{"least A 1"}, []int{0}, 1, 4},
		{[]string{"most A 1"}, []int{0}, 2, 48},
		{[]string{"least AB*C* 5"}, []int{0}, 6, 43},
		// As many in A as in B: none is in one alone, or one in each.
		{[]string{"nomore A B 0", "nomore B A 0"}, []int{0, 1, and}, 2, 24},
		{[]string{"nomore A B -1"}, []int{0}, 2, 20},
		{[]string{"nomore A B -2"}, []int{0}, 2, 4},
		// An atom that no sign is the number of says nothing.
		{[]string{"most A 1", "most 0 -1"}, []int{0}, 2, 48},
		{[]string{"sub A B"}, []int{0, 0, no, and}, 4, 0},
		{[]string{"sub A B"}, []int{0, 0, no, or}, 4, 4096},
		// Without things there is one world.
		{[]string{"sub 1 0"}, []int{0}, 0, 1},
		{[]string{"least 1 1"}, []int{0}, 0, 0},
		{[]string{"least A 7"}, []int{0}, 6, 0},
		{[]string{"most A 6"}, []int{0}, 6, 262144},
		{[]string{"least A -20"}, []int{0}, 6, 262144},
	} {
		askOf(t, of(t, c.texts, c.code...), c.u, c.want, api.OK)
	}
}

// pool of atoms of all kinds.
var pool = []string{
	"sub A B", "sub B C", "sub AB* C", "sub 1 AB+", "sub C A~", "same A B", "same AB- 0", "same C AB+", "same AB- BA-",
	"least A 1", "least B 2", "least AB-C- 1", "least 1 3", "least C~ 2", "most A 0", "most B 1", "most AB+ 2", "most 1 4", "most C 3",
	"nomore A B 0", "nomore B A -1", "nomore A C 1", "nomore AB+ C -1", "nomore C~ B -2", "nomore 1 A 1", "most 0 -1", "least A 7",
}

// chooser answers numbers from 0 to below n, one behind the other, always the same ones.
func chooser() func(n int) int {
	state := uint64(1)
	return func(n int) int {
		state = state*6364136223846793005 + 1442695040888963407
		return int(state >> 33 % uint64(n))
	}
}

// chosen is a right formula of up to six atoms of the pool, and of up to 20 signs.
func chosen(t *testing.T, choose func(n int) int) api.Form {
	t.Helper()
	var texts []string
	for range 1 + choose(6) {
		texts = append(texts, pool[choose(len(pool))])
	}
	two := func() int { return []int{and, or, and, then}[choose(4)] }
	code, depth, most := []int{choose(len(texts))}, 1, 2+choose(19)
	// Each formula but one needs one more sign, that takes it.
	for len(code)+depth+1 <= most {
		switch k := choose(7); {
		case k == 0:
			code = append(code, no)
		case k <= 3 && depth >= 2:
			code, depth = append(code, two()), depth-1
		default:
			code, depth = append(code, choose(len(texts))), depth+1
		}
	}
	for range depth - 1 {
		code = append(code, two())
	}
	return of(t, texts, code...)
}

// oneByOne counts the worlds of some in which a formula holds.
func oneByOne(t *testing.T, f api.Form, list []api.World) int {
	t.Helper()
	many := 0
	for _, w := range list {
		is, err := form.Holds(f, w)
		if err != nil {
			t.Fatalf("Holds(%v, %v): got %v", f, w, err)
		}
		if is {
			many++
		}
	}
	return many
}

// TestOneByOne: against every world; the more things, the fewer formulas.
func TestOneByOne(t *testing.T) {
	choose := chooser()
	for u, formulas := range []int{400, 400, 200, 100, 20, 4, 1} {
		list := every(u)
		between := 0
		for range formulas {
			f := chosen(t, choose)
			want := oneByOne(t, f, list)
			askOf(t, f, u, want, api.OK)
			if want > 0 && want < howMany[u] {
				between++
			}
		}
		if u > 0 && between == 0 {
			t.Errorf("%d things: no formula that holds in some worlds, not in all", u)
		}
	}
}

// TestEachAtom: each of the pool alone, against every world of up to four things, and one against every world of six.
func TestEachAtom(t *testing.T) {
	for u := range 5 {
		list := every(u)
		for _, text := range pool {
			f := of(t, []string{text}, 0)
			askOf(t, f, u, oneByOne(t, f, list), api.OK)
		}
	}
	list := every(maxThings)
	f := of(t, []string{"nomore AB+ C -1"}, 0)
	askOf(t, f, maxThings, oneByOne(t, f, list), api.OK)
}

// TestTogether: where it holds and where it does not is all; there is a model where it holds in one world or more.
func TestTogether(t *testing.T) {
	choose := chooser()
	for range 500 {
		f := chosen(t, choose)
		u := choose(maxThings + 1)
		many, err := Of(f, u)
		if err != nil {
			t.Errorf("Of(%v, %d): got %v", f, u, err)
		}
		if not, err := form.Negate(f); err == nil {
			askOf(t, not, u, howMany[u]-many, api.OK)
		}
		_, err = model.Of(f, u)
		if kind := plain.Told(err); kind != api.ErrFull && (kind == api.OK) != (many > 0) {
			t.Errorf("model of %v, %d things: got %v, holds in %d worlds", f, u, kind, many)
		}
	}
}

// TestJustAlike: a formula that says how many lie in each field holds in just the worlds that are alike.
func TestJustAlike(t *testing.T) {
	// One in A alone, two in B alone, and the others in C alone.
	f := of(t, []string{"least AB-C- 1", "most A 1", "least BA-C- 2", "most B 2", "same C~ AB+"}, 0, 1, and, 2, and, 3, and, 4, and)
	for u, want := range []int{0, 0, 0, 3, 12, 30, 60} {
		askOf(t, f, u, want, api.OK)
		if want > 0 {
			askAlike(t, world(u, 1, 6, 1<<u-8), want, api.OK)
		}
	}
}

// TestHolds: where so many things lie in each field, just as in each world in which they do; of wrong counts chapter 6's errors.
func TestHolds(t *testing.T) {
	f := of(t, []string{"sub A B", "nomore C A -1", "least AB+ 2"}, 0, 1, and, 2, no, or)
	for _, w := range every(3) {
		want, err := form.Holds(f, w)
		if err != nil {
			t.Fatalf("form.Holds(%v): got %v", w, err)
		}
		if got, err := Holds(f, crossed(w)); got != want || err != nil {
			t.Errorf("Holds(%v): got %t %v, want %t", crossed(w), got, err, want)
		}
	}
	for _, c := range []struct {
		f     api.Form
		n     [cells]int
		wrong api.Errno
	}{
		{f, [cells]int{-1}, api.ErrRange},
		{f, [cells]int{7}, api.ErrRange},
		{f, [cells]int{math.MaxInt, math.MaxInt}, api.ErrRange},
		{f, [cells]int{4, 3}, api.ErrFull},
		{api.Form{}, [cells]int{1}, api.ErrNone},
	} {
		if got, err := Holds(c.f, c.n); got || plain.Told(err) != c.wrong {
			t.Errorf("Holds(%v, %v): got %t %v, want %v", c.f, c.n, got, err, c.wrong)
		}
	}
}

// TestManyCubes: neither too many cubes nor a negation too long is an error here.
func TestManyCubes(t *testing.T) {
	six := []string{"least A 0", "least B 0", "least C 0", "sub 0 A", "sub 0 B", "sub 0 C"}
	f := of(t, six, 1, 4, and, 3, 2, 5, or, and, 0, or, and, no, 5, 5, then, and)
	if _, err := cubes.Of(f); plain.Told(err) != api.ErrFull {
		t.Fatalf("cubes of %v: got %v", f, err)
	}
	long := of(t, six, append([]int{0}, slices.Repeat([]int{no}, maxCode-1)...)...)
	short := of(t, six, append([]int{0}, slices.Repeat([]int{no}, maxCode-2)...)...)
	for u := range maxThings + 1 {
		askOf(t, f, u, 0, api.OK)
		askOf(t, long, u, 0, api.OK)
		askOf(t, short, u, howMany[u], api.OK)
	}
}

// TestWrongFormulas: told ahead of wrong things.
func TestWrongFormulas(t *testing.T) {
	a := api.Atom{What: 3, S: []int{0}, N: 1}
	one := []api.Atom{a}
	for _, c := range []struct {
		f     api.Form
		wrong api.Errno
	}{
		{api.Form{}, api.ErrNone},
		{api.Form{Atoms: one}, api.ErrNone},
		{api.Form{Atoms: one, Code: []int{}}, api.ErrNone},
		{api.Form{Code: []int{0}}, api.ErrNone},
		{api.Form{Atoms: []api.Atom{{What: 3}}, Code: []int{0}}, api.ErrNone},
		{api.Form{Atoms: []api.Atom{a, {What: 1, S: []int{0}}}, Code: []int{0}}, api.ErrNone},
		{api.Form{Atoms: slices.Repeat(one, 7), Code: []int{0}}, api.ErrFull},
		{api.Form{Atoms: one, Code: append([]int{0}, slices.Repeat([]int{no}, maxCode)...)}, api.ErrFull},
		{api.Form{Atoms: []api.Atom{{What: 3, S: slices.Repeat([]int{0}, 13)}}, Code: []int{0}}, api.ErrFull},
		{api.Form{Atoms: []api.Atom{a, {}}, Code: []int{0}}, api.ErrRange},
		{api.Form{Atoms: []api.Atom{{What: 6, S: []int{0}}}, Code: []int{0}}, api.ErrRange},
		{api.Form{Atoms: []api.Atom{{What: 3, S: []int{9}}}, Code: []int{0}}, api.ErrRange},
		{api.Form{Atoms: []api.Atom{{What: 3, S: []int{0}, N: 21}}, Code: []int{0}}, api.ErrRange},
		{api.Form{Atoms: one, Code: []int{1}}, api.ErrRange},
		{api.Form{Atoms: one, Code: []int{-1}}, api.ErrRange},
		{api.Form{Atoms: one, Code: []int{14}}, api.ErrRange},
		{api.Form{Atoms: one, Code: []int{math.MinInt}}, api.ErrRange},
		{api.Form{Atoms: one, Code: []int{math.MaxInt}}, api.ErrRange},
		{api.Form{Atoms: []api.Atom{a, {What: 3, S: []int{0, 1}}}, Code: []int{0}}, api.ErrShape},
		{api.Form{Atoms: []api.Atom{{What: 3, S: []int{0}, T: []int{0}}}, Code: []int{0}}, api.ErrShape},
		{api.Form{Atoms: one, Code: []int{0, 0}}, api.ErrShape},
		{api.Form{Atoms: one, Code: []int{no}}, api.ErrShape},
		{api.Form{Atoms: one, Code: []int{0, and}}, api.ErrShape},
	} {
		for u := range maxThings + 1 {
			askOf(t, c.f, u, 0, c.wrong)
		}
		for _, u := range wrongThings {
			askOf(t, c.f, u, 0, c.wrong)
		}
	}
}

// TestWrongThings: told of formulas that always, at times and never hold.
func TestWrongThings(t *testing.T) {
	for _, u := range wrongThings {
		for _, code := range [][]int{{0}, {0, no}, {0, 0, no, and}, {0, 0, no, or}, {1}, {1, no}} {
			askOf(t, of(t, []string{"least A 1", "sub A A"}, code...), u, 0, api.ErrRange)
		}
	}
}

// spare has a list, with wrong numbers in the memory behind its length.
func spare(list []int) []int {
	return append(slices.Clone(list), 99, -99, 12)[:len(list)]
}

// TestNothingIsWritten: into a formula that is handed in, or what lies behind its lists; and that is not read.
func TestNothingIsWritten(t *testing.T) {
	made := func() api.Form {
		f := of(t, []string{"sub A B", "nomore C A -1", "least AB+ 2"}, 0, 1, and, 2, no, or)
		f.Code = spare(f.Code)
		for i := range f.Atoms {
			f.Atoms[i].S, f.Atoms[i].T = spare(f.Atoms[i].S), spare(f.Atoms[i].T)
		}
		f.Atoms = append(f.Atoms, api.Atom{What: 9})[:3]
		return f
	}
	f, keep := made(), made()
	for u := -1; u <= maxThings+1; u++ {
		Of(f, u)
		Of(f, u)
	}
	if !reflect.DeepEqual(whole(f), whole(keep)) {
		t.Errorf("got %v, want %v", whole(f), whole(keep))
	}
	askOf(t, f, 3, oneByOne(t, f, every(3)), api.OK)
}

// whole is a formula with what lies behind its lists.
func whole(f api.Form) api.Form {
	f.Code, f.Atoms = f.Code[:cap(f.Code)], slices.Clone(f.Atoms[:cap(f.Atoms)])
	for i, a := range f.Atoms {
		f.Atoms[i].S, f.Atoms[i].T = a.S[:cap(a.S)], a.T[:cap(a.T)]
	}
	return f
}

// TestSameAgain: what is answered does not hang on calls before, nor on that one of them was wrong.
func TestSameAgain(t *testing.T) {
	f := of(t, []string{"sub A B"}, 0)
	for range 3 {
		askOf(t, f, 3, 216, api.OK)
		askOf(t, f, 7, 0, api.ErrRange)
		askOf(t, api.Form{}, 3, 0, api.ErrNone)
		askAll(t, 3, 512, api.OK)
		askAll(t, -1, 0, api.ErrRange)
		askAlike(t, world(3, 1, 2, 4), 6, api.OK)
		askAlike(t, world(3, 1, 2, 8), 0, api.ErrRange)
	}
}
