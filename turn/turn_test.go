package turn

import (
	"math"
	"reflect"
	"slices"
	"testing"

	"vennhouse/alike"
	"vennhouse/api"
	"vennhouse/atom"
	"vennhouse/fields"
	"vennhouse/form"
	"vennhouse/plain"
	"vennhouse/worlds"
)

// The numbers as chapters 1, 2 and 4 and package api write them, so that the names are held against them, too.
const (
	and  = 10
	or   = 11
	no   = 12
	then = 13

	names     = 3
	maxThings = 6
	maxTerm   = 12
	maxAtoms  = 6
	maxCode   = 20
)

// far are numbers that are neither a name nor a thing, and at which a shift or an index would go astray.
var far = []int{math.MinInt, math.MinInt + 1, -1 << 32, -64, -6, -3, -2, -1, 6, 7, 63, 64, 1 << 32, 1<<32 + 1, math.MaxInt - 1, math.MaxInt}

// orders of three names, all of them, written out.
var orders = [][names]int{{0, 1, 2}, {0, 2, 1}, {1, 0, 2}, {1, 2, 0}, {2, 0, 1}, {2, 1, 0}}

// of has atoms, as texts, and a Code.
func of(t *testing.T, texts []string, code ...int) api.Form {
	t.Helper()
	f := api.Form{Code: code}
	for _, text := range texts {
		a, err := atom.Parse(text)
		if err != nil {
			t.Fatalf("Parse(%q): got %v", text, err)
		}
		f.Atoms = append(f.Atoms, a)
	}
	return f
}

// world of so many things, and of what A, B and C have.
func world(things, a, b, c int) api.World {
	return api.World{Things: things, Has: [names]int{a, b, c}}
}

// every world of u things.
func every(u int) (out []api.World) {
	for a := range 1 << u {
		for b := range 1 << u {
			for c := range 1 << u {
				out = append(out, world(u, a, b, c))
			}
		}
	}
	return out
}

// ordersOf u things, all of them: the last one at each place of those of one fewer.
func ordersOf(u int) [][]int {
	if u == 0 {
		return [][]int{nil}
	}
	var out [][]int
	for _, p := range ordersOf(u - 1) {
		for i := range u {
			out = append(out, slices.Insert(slices.Clone(p), i, u-1))
		}
	}
	return out
}

// equal formulas, where an empty list and nil are the same.
func equal(f, g api.Form) bool {
	same := func(a, b api.Atom) bool {
		return a.What == b.What && a.N == b.N && slices.Equal(a.S, b.S) && slices.Equal(a.T, b.T)
	}
	return slices.EqualFunc(f.Atoms, g.Atoms, same) && slices.Equal(f.Code, g.Code)
}

func askNames(t *testing.T, f api.Form, p [names]int, want api.Form, wrong api.Errno) {
	t.Helper()
	got, err := Names(f, p)
	if !equal(got, want) || plain.Told(err) != wrong {
		t.Errorf("Names(%v, %v): got %v %v, want %v %v", f, p, got, plain.Told(err), want, wrong)
	}
}

func askWorld(t *testing.T, w api.World, p [names]int, want api.World, wrong api.Errno) {
	t.Helper()
	got, err := World(w, p)
	if got != want || plain.Told(err) != wrong {
		t.Errorf("World(%v, %v): got %v %v, want %v %v", w, p, got, plain.Told(err), want, wrong)
	}
}

func askThings(t *testing.T, w api.World, p []int, want api.World, wrong api.Errno) {
	t.Helper()
	got, err := Things(w, p)
	if got != want || plain.Told(err) != wrong {
		t.Errorf("Things(%v, %v): got %v %v, want %v %v", w, p, got, plain.Told(err), want, wrong)
	}
}

// rightNames, rightWorld and rightThings are answers to what is known to be right.
func rightNames(t *testing.T, f api.Form, p [names]int) api.Form {
	t.Helper()
	got, err := Names(f, p)
	if err != nil {
		t.Fatalf("Names(%v, %v): got %v", f, p, err)
	}
	return got
}

func rightWorld(t *testing.T, w api.World, p [names]int) api.World {
	t.Helper()
	got, err := World(w, p)
	if err != nil {
		t.Fatalf("World(%v, %v): got %v", w, p, err)
	}
	return got
}

func rightThings(t *testing.T, w api.World, p []int) api.World {
	t.Helper()
	got, err := Things(w, p)
	if err != nil {
		t.Fatalf("Things(%v, %v): got %v", w, p, err)
	}
	return got
}

// holds tells whether a right formula does.
func holds(t *testing.T, f api.Form, w api.World) bool {
	t.Helper()
	is, err := form.Holds(f, w)
	if err != nil {
		t.Fatalf("Holds(%v, %v): got %v", f, w, err)
	}
	return is
}

// pool of atoms of all kinds.
var pool = []string{
	"sub A B", "sub B C", "sub AB* C", "sub 1 AB+", "sub C A~", "same A B", "same AB- 0", "same C AB+", "same AB- BA-",
	"least A 1", "least B 2", "least AB-C- 1", "least 1 3", "least C~ 2", "most A 0", "most B 1", "most AB+ 2", "most 1 4", "most C 3",
	"nomore A B 0", "nomore B A -1", "nomore A C 1", "nomore AB+ C -1", "nomore C~ B -2", "nomore 1 A 1", "most 0 -1", "least A 7",
}

// chooser answers numbers from 0 to below n, one behind the other, always the same ones.
func chooser() func(n int) int {
	state := uint64(1)
	return func(n int) int {
		state = state*6364136223846793005 + 1442695040888963407
		return int(state >> 33 % uint64(n))
	}
}

// chosen is a right formula of up to six atoms of the pool.
func chosen(t *testing.T, choose func(n int) int) api.Form {
	t.Helper()
	var texts []string
	for range 1 + choose(maxAtoms) {
		texts = append(texts, pool[choose(len(pool))])
	}
	two := func() int { return []int{and, or, and, then}[choose(4)] }
	code, depth, most := []int{choose(len(texts))}, 1, 1+choose(maxCode)
	// Each formula but one needs one more sign, that takes it.
	for len(code)+depth+1 <= most {
		switch k := choose(7); {
		case k == 0:
			code = append(code, no)
		case k <= 3 && depth >= 2:
			code, depth = append(code, two()), depth-1
		default:
			code, depth = append(code, choose(len(texts))), depth+1
		}
	}
	for range depth - 1 {
		code = append(code, two())
	}
	return of(t, texts, code...)
}

func TestNumbersOfTheChapter(t *testing.T) {
	got := [...]int{api.A, api.B, api.C, api.And, api.Or, api.No, api.Then, api.Names, api.MaxThings, api.MaxTerm, api.MaxAtoms, api.MaxCode}
	want := [...]int{0, 1, 2, and, or, no, then, names, maxThings, maxTerm, maxAtoms, maxCode}
	if got != want {
		t.Errorf("numbers: got %v, want %v", got, want)
	}
	if api.ErrRange != 1 || api.ErrShape != 3 {
		t.Errorf("errors: got %d %d", int(api.ErrRange), int(api.ErrShape))
	}
}

// TestErrorIsNil: where nothing is wrong the error is nil, not an OK in an error.
func TestErrorIsNil(t *testing.T) {
	p := [names]int{2, 0, 1}
	if _, err := Names(of(t, []string{"sub A B"}, 0), p); err != nil {
		t.Errorf("Names: got %v", err)
	}
	if _, err := World(world(3, 1, 2, 4), p); err != nil {
		t.Errorf("World: got %v", err)
	}
	if _, err := Things(world(3, 1, 2, 4), p[:]); err != nil {
		t.Errorf("Things: got %v", err)
	}
	if _, err := Things(api.World{}, nil); err != nil {
		t.Errorf("Things: got %v", err)
	}
}

func TestNamesByHand(t *testing.T) {
	for _, c := range []struct {
		text string
		p    [names]int
		want string
	}{
		{"sub A B", [names]int{0, 1, 2}, "sub A B"},
		{"sub A B", [names]int{1, 0, 2}, "sub B A"},
		{"sub A B", [names]int{1, 2, 0}, "sub B C"},
		{"sub A B", [names]int{2, 0, 1}, "sub C A"},
		{"sub A B", [names]int{0, 2, 1}, "sub A C"},
		{"sub A B", [names]int{2, 1, 0}, "sub C B"},
		{"same ABC-- AC*", [names]int{1, 2, 0}, "same BCA-- BA*"},
		{"same ABC-- AC*", [names]int{2, 0, 1}, "same CAB-- CB*"},
		{"least AA+B~* 2", [names]int{1, 2, 0}, "least BB+C~* 2"},
		{"most C -20", [names]int{1, 2, 0}, "most A -20"},
		{"nomore AB+ C~ 20", [names]int{2, 0, 1}, "nomore CA+ B~ 20"},
		// What is no name stays.
		{"nomore 0 1 0", [names]int{1, 2, 0}, "nomore 0 1 0"},
		{"same 01+~ 01*~~", [names]int{2, 0, 1}, "same 01+~ 01*~~"},
		{"sub 1A- 0B+", [names]int{2, 1, 0}, "sub 1C- 0B+"},
	} {
		askNames(t, of(t, []string{c.text}, 0), c.p, of(t, []string{c.want}, 0), api.OK)
	}
}

// TestCodeStays: the numbers of atoms in it are no names; and an atom that it has not the number of has other names, too.
func TestCodeStays(t *testing.T) {
	texts := []string{"sub A B", "sub B C", "sub C A", "least A 1", "most B 2", "nomore C A 1"}
	turned := []string{"sub B C", "sub C A", "sub A B", "least B 1", "most C 2", "nomore A B 1"}
	for _, code := range [][]int{
		{0}, {1}, {2}, {5}, {0, no}, {2, 1, 0, and, or}, {0, 1, then, 2, 3, then, 4, 5, then, and, and},
		append([]int{1}, slices.Repeat([]int{no}, maxCode-1)...),
	} {
		askNames(t, of(t, texts, code...), [names]int{1, 2, 0}, of(t, turned, code...), api.OK)
	}
}

// TestLongest: twelve signs of a term, six atoms and twenty signs of a Code are not too many.
func TestLongest(t *testing.T) {
	longest := func(a, b, c int) api.Form {
		s := []int{a, b, 5, b, c, 5, 6, c, a, 5, 6, 8}
		n := append([]int{c}, slices.Repeat([]int{8}, maxTerm-1)...)
		return api.Form{
			Atoms: slices.Repeat([]api.Atom{{What: 5, S: s, T: n, N: -20}}, maxAtoms),
			Code:  append([]int{5}, slices.Repeat([]int{no}, maxCode-1)...),
		}
	}
	for _, p := range orders {
		askNames(t, longest(0, 1, 2), p, longest(p[0], p[1], p[2]), api.OK)
	}
}

func TestWorldByHand(t *testing.T) {
	for _, c := range []struct{ p, want [names]int }{
		{[names]int{0, 1, 2}, [names]int{3, 5, 8}},
		{[names]int{0, 2, 1}, [names]int{3, 8, 5}},
		{[names]int{1, 0, 2}, [names]int{5, 3, 8}},
		{[names]int{1, 2, 0}, [names]int{8, 3, 5}},
		{[names]int{2, 0, 1}, [names]int{5, 8, 3}},
		{[names]int{2, 1, 0}, [names]int{8, 5, 3}},
	} {
		for u := 4; u <= maxThings; u++ {
			askWorld(t, world(u, 3, 5, 8), c.p, api.World{Things: u, Has: c.want}, api.OK)
		}
	}
	for _, p := range orders {
		askWorld(t, api.World{}, p, api.World{}, api.OK)
		askWorld(t, world(maxThings, 63, 63, 63), p, world(maxThings, 63, 63, 63), api.OK)
	}
}

func TestThingsByHand(t *testing.T) {
	for _, c := range []struct {
		w    api.World
		p    []int
		want api.World
	}{
		{api.World{}, nil, api.World{}},
		{api.World{}, []int{}, api.World{}},
		{world(1, 1, 0, 1), []int{0}, world(1, 1, 0, 1)},
		{world(2, 1, 2, 3), []int{0, 1}, world(2, 1, 2, 3)},
		{world(2, 1, 2, 3), []int{1, 0}, world(2, 2, 1, 3)},
		{world(3, 1, 2, 4), []int{1, 2, 0}, world(3, 2, 4, 1)},
		{world(3, 1, 2, 4), []int{2, 0, 1}, world(3, 4, 1, 2)},
		{world(3, 3, 6, 5), []int{1, 2, 0}, world(3, 6, 5, 3)},
		{world(4, 15, 3, 2), []int{3, 0, 1, 2}, world(4, 15, 9, 1)},
		{world(6, 1, 32, 63), []int{5, 4, 3, 2, 1, 0}, world(6, 32, 1, 63)},
		{world(6, 7, 24, 0), []int{1, 2, 3, 4, 5, 0}, world(6, 14, 48, 0)},
		{world(6, 7, 24, 32), []int{3, 5, 1, 0, 2, 4}, world(6, 42, 5, 16)},
	} {
		askThings(t, c.w, c.p, c.want, api.OK)
	}
}

// TestNameByName: name p[i] has what name i had, in every world of few things.
func TestNameByName(t *testing.T) {
	for u := range 4 {
		for _, w := range every(u) {
			for _, p := range orders {
				got := rightWorld(t, w, p)
				for i := range names {
					if got.Things != u || got.Has[p[i]] != w.Has[i] {
						t.Fatalf("World(%v, %v): got %v", w, p, got)
					}
				}
			}
		}
	}
}

// TestThingByThing: thing p[i] is in what thing i was in, for every order of every number of things.
func TestThingByThing(t *testing.T) {
	choose := chooser()
	for u := range maxThings + 1 {
		for _, p := range ordersOf(u) {
			for range 20 {
				w := world(u, choose(1<<u), choose(1<<u), choose(1<<u))
				got := rightThings(t, w, p)
				for i := range u {
					for name := range names {
						if got.Has[name]>>p[i]&1 != w.Has[name]>>i&1 {
							t.Fatalf("Things(%v, %v): got %v", w, p, got)
						}
					}
				}
				askWorld(t, got, orders[0], got, api.OK)
				if got.Things != u {
					t.Fatalf("Things(%v, %v): got %v", w, p, got)
				}
			}
		}
	}
}

// TestNoNameIsSpecial: a formula with other names holds in the world of these just where it held.
func TestNoNameIsSpecial(t *testing.T) {
	choose := chooser()
	held := 0
	for range 1500 {
		f, u := chosen(t, choose), choose(maxThings+1)
		for range 5 {
			w := world(u, choose(1<<u), choose(1<<u), choose(1<<u))
			want := holds(t, f, w)
			for _, p := range orders {
				g, x := rightNames(t, f, p), rightWorld(t, w, p)
				if got := holds(t, g, x); got != want {
					t.Fatalf("%v in %v: got %v, want %v as of %v in %v", g, x, got, want, f, w)
				}
			}
			if want {
				held++
			}
		}
	}
	if held < 1000 || held > 6500 {
		t.Errorf("too few of a kind: %d of 7500 held", held)
	}
}

// TestInAsManyWorlds: a formula with other names holds in as many worlds.
func TestInAsManyWorlds(t *testing.T) {
	choose := chooser()
	for range 100 {
		f := chosen(t, choose)
		want, _ := worlds.Of(f, 3)
		for _, p := range orders {
			if got, err := worlds.Of(rightNames(t, f, p), 3); got != want || err != nil {
				t.Errorf("%v turned by %v: got %d %v, want %d", f, p, got, err, want)
			}
		}
	}
}

// TestNoThingIsSpecial: where the things are others, as many lie in each field, and what held holds.
func TestNoThingIsSpecial(t *testing.T) {
	choose := chooser()
	for u := range maxThings + 1 {
		for _, p := range ordersOf(u) {
			f, w := chosen(t, choose), world(u, choose(1<<u), choose(1<<u), choose(1<<u))
			got := rightThings(t, w, p)
			if holds(t, f, got) != holds(t, f, w) {
				t.Errorf("%v: another answer in %v than in %v", f, got, w)
			}
			before, _ := fields.Of(w)
			if after, err := fields.Of(got); after != before || err != nil {
				t.Errorf("Things(%v, %v): got %v, with %v %v in the fields, want %v", w, p, got, after, err, before)
			}
		}
	}
}

// TestSwap: two names in each other's place are what chapter 12's Swap makes of each term.
func TestSwap(t *testing.T) {
	choose := chooser()
	for range 200 {
		f := chosen(t, choose)
		for x := range names {
			for y := range names {
				p := orders[0]
				p[x], p[y] = p[y], p[x]
				for i, a := range rightNames(t, f, p).Atoms {
					s, err := alike.Swap(f.Atoms[i].S, x, y)
					if !slices.Equal(a.S, s) || err != nil {
						t.Errorf("%v turned by %v: got %v, want %v %v", f.Atoms[i].S, p, a.S, s, err)
					}
				}
			}
		}
	}
}

// back is the order by which what was turned is as it was.
func back(p []int) []int {
	out := make([]int, len(p))
	for i, n := range p {
		out[n] = i
	}
	return out
}

// behind is the order that does as much as one, and then another one.
func behind(p, q []int) []int {
	out := make([]int, len(p))
	for i, n := range p {
		out[i] = q[n]
	}
	return out
}

// TestBackAndBehind: turned back it is as it was; turned twice it is as turned once by both.
func TestBackAndBehind(t *testing.T) {
	choose := chooser()
	for range 100 {
		f, u := chosen(t, choose), choose(maxThings+1)
		w := world(u, choose(1<<u), choose(1<<u), choose(1<<u))
		for _, p := range orders {
			askNames(t, rightNames(t, f, p), [names]int(back(p[:])), f, api.OK)
			askWorld(t, rightWorld(t, w, p), [names]int(back(p[:])), w, api.OK)
			for _, q := range orders {
				both := [names]int(behind(p[:], q[:]))
				askNames(t, rightNames(t, f, p), q, rightNames(t, f, both), api.OK)
				askWorld(t, rightWorld(t, w, p), q, rightWorld(t, w, both), api.OK)
			}
		}
		all := ordersOf(u)
		for range 20 {
			p, q := all[choose(len(all))], all[choose(len(all))]
			askThings(t, rightThings(t, w, p), back(p), w, api.OK)
			askThings(t, rightThings(t, w, p), q, rightThings(t, w, behind(p, q)), api.OK)
		}
	}
}

// noOrders are three numbers that are not each name once.
func noOrders() (out [][names]int) {
	numbers := append([]int{0, 1, 2, 3}, far...)
	for _, a := range numbers {
		for _, b := range numbers {
			for _, c := range numbers {
				if p := [names]int{a, b, c}; !slices.Contains(orders, p) {
					out = append(out, p)
				}
			}
		}
	}
	return out
}

// TestNamesNotEachOnce: told also where the formula has no name, and the world has nothing.
func TestNamesNotEachOnce(t *testing.T) {
	forms := []api.Form{of(t, []string{"sub A B"}, 0), of(t, []string{"least 0 0"}, 0, no), of(t, []string{"same ABC++ 1", "most C 1"}, 0, 1, or)}
	for _, p := range noOrders() {
		for _, f := range forms {
			askNames(t, f, p, api.Form{}, api.ErrRange)
		}
		for _, w := range []api.World{{}, world(3, 1, 2, 4), world(maxThings, 63, 63, 63), world(-1, 0, 0, 0), world(2, 4, 0, 0)} {
			askWorld(t, w, p, api.World{}, api.ErrRange)
		}
	}
}

// wrongFormula is none, and what is wrong with it.
type wrongFormula struct {
	f     api.Form
	wrong api.Errno
}

// wrongFormulas are formulas that are none, and what chapter 4 says of them.
func wrongFormulas() []wrongFormula {
	a := api.Atom{What: 3, S: []int{0}, N: 1}
	one := []api.Atom{a}
	return []wrongFormula{
		{api.Form{}, api.ErrNone},
		{api.Form{Atoms: one}, api.ErrNone},
		{api.Form{Atoms: one, Code: []int{}}, api.ErrNone},
		{api.Form{Code: []int{0}}, api.ErrNone},
		{api.Form{Atoms: []api.Atom{{What: 3}}, Code: []int{0}}, api.ErrNone},
		{api.Form{Atoms: []api.Atom{a, {What: 1, S: []int{0}}}, Code: []int{0}}, api.ErrNone},
		{api.Form{Atoms: slices.Repeat(one, 7), Code: []int{0}}, api.ErrFull},
		{api.Form{Atoms: one, Code: append([]int{0}, slices.Repeat([]int{no}, maxCode)...)}, api.ErrFull},
		{api.Form{Atoms: []api.Atom{{What: 3, S: slices.Repeat([]int{0}, 13)}}, Code: []int{0}}, api.ErrFull},
		{api.Form{Atoms: []api.Atom{a, {}}, Code: []int{0}}, api.ErrRange},
		{api.Form{Atoms: []api.Atom{{What: 6, S: []int{0}}}, Code: []int{0}}, api.ErrRange},
		{api.Form{Atoms: []api.Atom{{What: 3, S: []int{9}}}, Code: []int{0}}, api.ErrRange},
		{api.Form{Atoms: []api.Atom{{What: 3, S: []int{-1}}}, Code: []int{0}}, api.ErrRange},
		{api.Form{Atoms: []api.Atom{{What: 3, S: []int{0}, N: 21}}, Code: []int{0}}, api.ErrRange},
		{api.Form{Atoms: one, Code: []int{1}}, api.ErrRange},
		{api.Form{Atoms: one, Code: []int{-1}}, api.ErrRange},
		{api.Form{Atoms: one, Code: []int{14}}, api.ErrRange},
		{api.Form{Atoms: one, Code: []int{math.MinInt}}, api.ErrRange},
		{api.Form{Atoms: one, Code: []int{math.MaxInt}}, api.ErrRange},
		{api.Form{Atoms: []api.Atom{a, {What: 3, S: []int{0, 1}}}, Code: []int{0}}, api.ErrShape},
		{api.Form{Atoms: []api.Atom{{What: 3, S: []int{0}, T: []int{0}}}, Code: []int{0}}, api.ErrShape},
		{api.Form{Atoms: one, Code: []int{0, 0}}, api.ErrShape},
		{api.Form{Atoms: one, Code: []int{no}}, api.ErrShape},
		{api.Form{Atoms: one, Code: []int{0, and}}, api.ErrShape},
	}
}

// TestWrongFormulas: told ahead of names that are wrong, too.
func TestWrongFormulas(t *testing.T) {
	wrong := noOrders()
	for _, c := range wrongFormulas() {
		for _, p := range slices.Concat(orders, wrong[:100], wrong[len(wrong)-100:]) {
			askNames(t, c.f, p, api.Form{}, c.wrong)
		}
	}
}

// wrongWorlds are worlds that are none, and what is wrong is in each place once.
func wrongWorlds() (out []api.World) {
	for _, things := range []int{-1, -2, 7, 8, 62, 63, 64, 1 << 32, math.MinInt, math.MaxInt} {
		out = append(out, world(things, 0, 0, 0))
	}
	for u := range maxThings + 1 {
		for name := range names {
			for _, set := range []int{-1, 1 << u, 1<<u + 1, 1 << 32, math.MinInt, math.MaxInt} {
				w := api.World{Things: u}
				w.Has[name] = set
				out = append(out, w)
			}
		}
	}
	return out
}

// TestWrongWorlds: told by Things ahead of a list of things that is wrong, too.
func TestWrongWorlds(t *testing.T) {
	for _, w := range wrongWorlds() {
		for _, p := range orders {
			askWorld(t, w, p, api.World{}, api.ErrRange)
		}
		for length := range 10 {
			right := make([]int, length)
			for i := range right {
				right[i] = i
			}
			askThings(t, w, right, api.World{}, api.ErrRange)
			askThings(t, w, make([]int, length), api.World{}, api.ErrRange)
			askThings(t, w, slices.Repeat([]int{-1}, length), api.World{}, api.ErrRange)
		}
	}
}

// TestNotAsManyThings: told ahead of things that are not there, or are there twice.
func TestNotAsManyThings(t *testing.T) {
	for u := range maxThings + 1 {
		w := world(u, 0, 1<<u-1, 0)
		for _, length := range []int{0, 1, 2, 3, 4, 5, 6, 7, 8, 64, 100000} {
			if length == u {
				continue
			}
			right := make([]int, length)
			for i := range right {
				right[i] = i
			}
			askThings(t, w, right, api.World{}, api.ErrShape)
			for _, n := range append([]int{0, u}, far...) {
				askThings(t, w, slices.Repeat([]int{n}, length), api.World{}, api.ErrShape)
			}
		}
	}
}

// TestThingsNotEachOnce: each place has a number in turn that is no thing, or that another place has.
func TestThingsNotEachOnce(t *testing.T) {
	for u := range maxThings + 1 {
		for _, w := range []api.World{world(u, 0, 0, 0), world(u, 1<<u-1, 0, 1<<u-1)} {
			for _, p := range ordersOf(u) {
				for i := range p {
					bad := slices.Clone(p)
					for _, n := range append([]int{u, u + 1, p[(i+1)%u], p[(i+u-1)%u]}, far...) {
						bad[i] = n
						if n != p[i] {
							askThings(t, w, bad, api.World{}, api.ErrRange)
						}
					}
				}
			}
		}
	}
}

// spare has a list, with wrong numbers in the memory behind its length.
func spare(list []int) []int {
	return append(slices.Clone(list), 99, -99, 12)[:len(list)]
}

// roomy has a formula whose lists all have something wrong behind them.
func roomy(f api.Form) api.Form {
	f.Code = spare(f.Code)
	for i := range f.Atoms {
		f.Atoms[i].S, f.Atoms[i].T = spare(f.Atoms[i].S), spare(f.Atoms[i].T)
	}
	f.Atoms = append(f.Atoms, api.Atom{What: 9})[:len(f.Atoms)]
	return f
}

// whole is a formula with what lies behind its lists.
func whole(f api.Form) api.Form {
	f.Code, f.Atoms = f.Code[:cap(f.Code)], slices.Clone(f.Atoms[:cap(f.Atoms)])
	for i, a := range f.Atoms {
		f.Atoms[i].S, f.Atoms[i].T = a.S[:cap(a.S)], a.T[:cap(a.T)]
	}
	return f
}

// given is a formula with room behind its lists, the same one each time.
func given(t *testing.T) api.Form {
	t.Helper()
	return roomy(of(t, []string{"sub A B", "nomore C A -1", "least AB+ 2"}, 0, 1, and, 2, no, or))
}

// TestNothingIsWritten: into a list that is handed in, or what lies behind it; and that is not read.
func TestNothingIsWritten(t *testing.T) {
	f, keep := given(t), given(t)
	for _, p := range append([][names]int{{0, 0, 0}, {0, 1, 3}, {-1, 0, 1}}, orders...) {
		Names(f, p)
	}
	if !reflect.DeepEqual(whole(f), whole(keep)) {
		t.Errorf("got %v, want %v", whole(f), whole(keep))
	}
	askNames(t, f, [names]int{1, 2, 0}, of(t, []string{"sub B C", "nomore A B -1", "least BC+ 2"}, 0, 1, and, 2, no, or), api.OK)
	things := []int{2, 0, 1, 3, 77, -77}
	for n := range len(things) + 1 {
		for u := range maxThings + 1 {
			Things(world(u, 0, 1<<u-1, 0), things[:n])
		}
	}
	if want := []int{2, 0, 1, 3, 77, -77}; !slices.Equal(things, want) {
		t.Errorf("things: got %v, want %v", things, want)
	}
	askThings(t, world(3, 1, 2, 4), things[:3], world(3, 4, 1, 2), api.OK)
	askThings(t, world(4, 1, 2, 8), things[:4], world(4, 4, 1, 8), api.OK)
}

// spoil writes over every list of a formula, one with another number than the next one, and over the room behind it.
func spoil(f api.Form) {
	for i := range f.Atoms {
		a := &f.Atoms[i]
		for k, list := range [][]int{a.S, a.T} {
			list = list[:cap(list)]
			for j := range list {
				list[j] = 100 + 2*i + k
			}
		}
		a.What, a.N = 100+i, 200+i
	}
	code := f.Code[:cap(f.Code)]
	for i := range code {
		code[i] = 99
	}
}

// TestNamesAreFresh: what comes out shares no memory with what went in, nor one list of it with another, also where no name is another one.
func TestNamesAreFresh(t *testing.T) {
	for _, p := range orders {
		f, keep := given(t), given(t)
		got, again, want := rightNames(t, f, p), rightNames(t, f, p), rightNames(t, keep, p)
		spoil(got)
		if !reflect.DeepEqual(whole(f), whole(keep)) {
			t.Errorf("handed in: got %v, want %v", whole(f), whole(keep))
		}
		if !equal(again, want) {
			t.Errorf("another answer: got %v, want %v", again, want)
		}
		for i, a := range got.Atoms {
			for k, list := range [][]int{a.S, a.T} {
				for _, n := range list {
					if n != 100+2*i+k {
						t.Errorf("list %d of atom %d: got %v", k, i, list)
					}
				}
			}
		}
		spoil(f)
		if !equal(again, want) {
			t.Errorf("kept: got %v, want %v", again, want)
		}
	}
}

// TestSharedLists: a list that several atoms have in common, when handed in, is another one for each of them in the answer.
func TestSharedLists(t *testing.T) {
	s := []int{0, 1, 5}
	a := api.Atom{What: 1, S: s, T: s}
	got := rightNames(t, api.Form{Atoms: []api.Atom{a, a}, Code: []int{0, 1, or}}, [names]int{2, 1, 0})
	lists := [][]int{got.Atoms[0].S, got.Atoms[0].T, got.Atoms[1].S, got.Atoms[1].T}
	for i, list := range lists {
		if !slices.Equal(list, []int{2, 1, 5}) {
			t.Errorf("list %d: got %v", i, list)
		}
		clear(list)
	}
	if !slices.Equal(s, []int{0, 1, 5}) {
		t.Errorf("handed in: got %v", s)
	}
}

// TestSameAgain: what is answered does not hang on calls before, nor on that one of them was wrong.
func TestSameAgain(t *testing.T) {
	f, turned, p := of(t, []string{"sub A B"}, 0), of(t, []string{"sub B C"}, 0), [names]int{1, 2, 0}
	for range 3 {
		askNames(t, f, p, turned, api.OK)
		askNames(t, f, [names]int{1, 1, 0}, api.Form{}, api.ErrRange)
		askNames(t, api.Form{}, p, api.Form{}, api.ErrNone)
		askWorld(t, world(3, 1, 2, 4), p, world(3, 4, 1, 2), api.OK)
		askWorld(t, world(3, 1, 8, 4), p, api.World{}, api.ErrRange)
		askThings(t, world(3, 1, 2, 4), []int{1, 2, 0}, world(3, 2, 4, 1), api.OK)
		askThings(t, world(3, 1, 2, 4), []int{1, 2}, api.World{}, api.ErrShape)
		askThings(t, world(3, 1, 2, 4), []int{1, 2, 1}, api.World{}, api.ErrRange)
	}
}
