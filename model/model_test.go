package model

import (
	"math"
	"reflect"
	"slices"
	"testing"

	"vennhouse/api"
	"vennhouse/atom"
	"vennhouse/cubes"
	"vennhouse/fields"
	"vennhouse/form"
	"vennhouse/plain"
)

// The numbers as chapters 4, 5, 6 and 9 and package api write them, so that the names are held against them, too.
const (
	and  = 10
	or   = 11
	no   = 12
	then = 13

	cells     = 8
	maxThings = 6
	maxCode   = 20
)

// wrongThings are numbers of things that are none.
var wrongThings = []int{
	-1, -2, -6, 7, 8, 9, 62, 63, 64, 1 << 31, 1 << 32, 1 << 62, -1 << 32,
	math.MinInt, math.MinInt + 1, math.MinInt + 6, math.MaxInt - 1, math.MaxInt,
}

// world of so many things, with what A, B and C have.
func world(things, a, b, c int) api.World {
	return api.World{Things: things, Has: [3]int{a, b, c}}
}

// full is the world in which all things lie in the last field.
func full(u int) api.World {
	all := 1<<u - 1
	return world(u, all, all, all)
}

// of has atoms, as texts, and a Code.
func of(t *testing.T, texts []string, code ...int) api.Form {
	t.Helper()
	f := api.Form{Code: code}
	for _, text := range texts {
		a, err := atom.Parse(text)
		if err != nil {
			t.Fatalf("Parse(%q): got %v", text, err)
		}
		f.Atoms = append(f.Atoms, a)
	}
	return f
}

func askOf(t *testing.T, f api.Form, u int, want api.World, wrong api.Errno) {
	t.Helper()
	got, err := Of(f, u)
	if got != want || plain.Told(err) != wrong {
		t.Errorf("Of(%v, %d): got %v %v, want %v %v", f, u, got, plain.Told(err), want, wrong)
	}
}

func askSure(t *testing.T, f api.Form, u int, want bool, wrong api.Errno) {
	t.Helper()
	got, err := Sure(f, u)
	if got != want || plain.Told(err) != wrong {
		t.Errorf("Sure(%v, %d): got %t %v, want %t %v", f, u, got, plain.Told(err), want, wrong)
	}
}

func askAgainst(t *testing.T, f api.Form, u int, want api.World, wrong api.Errno) {
	t.Helper()
	got, err := Against(f, u)
	if got != want || plain.Told(err) != wrong {
		t.Errorf("Against(%v, %d): got %v %v, want %v %v", f, u, got, plain.Told(err), want, wrong)
	}
}

// askTurned asks for a formula's world against it, and, as this is told by the same, whether it is sure.
func askTurned(t *testing.T, f api.Form, u int, want api.World, wrong api.Errno) {
	t.Helper()
	askAgainst(t, f, u, want, wrong)
	if wrong == api.ErrNone {
		askSure(t, f, u, true, api.OK)
		return
	}
	askSure(t, f, u, false, wrong)
}

func TestNumbersOfTheChapter(t *testing.T) {
	got := [...]int{api.And, api.Or, api.No, api.Then, api.Fields, api.MaxThings, api.MaxCode}
	want := [...]int{and, or, no, then, cells, maxThings, maxCode}
	if got != want {
		t.Errorf("numbers: got %v, want %v", got, want)
	}
}

// TestErrorIsNil: where nothing is wrong the error is nil, not an OK in an error.
func TestErrorIsNil(t *testing.T) {
	f := of(t, []string{"least A 1"}, 0)
	if _, err := Of(f, 2); err != nil {
		t.Errorf("Of: got %v", err)
	}
	if _, err := Against(f, 2); err != nil {
		t.Errorf("Against: got %v", err)
	}
	if _, err := Sure(f, 2); err != nil {
		t.Errorf("Sure that is not: got %v", err)
	}
	if is, err := Sure(of(t, []string{"sub A A"}, 0), 2); !is || err != nil {
		t.Errorf("Sure that is: got %t %v", is, err)
	}
}

func TestOfByHand(t *testing.T) {
	for _, c := range []struct {
		texts []string
		code  []int
		u     int
		want  api.World
	}{
		{[]string{"least A 2"}, []int{0}, 3, full(3)},
		{[]string{"least A 0"}, []int{0}, 0, full(0)},
		{[]string{"least A 6"}, []int{0}, 6, full(6)},
		{[]string{"most A 1"}, []int{0}, 2, world(2, 2, 3, 3)},
		{[]string{"same A 0"}, []int{0}, 2, world(2, 0, 3, 3)},
		{[]string{"sub 1 0"}, []int{0}, 0, full(0)},
		{[]string{"nomore A B -2"}, []int{0}, 3, world(3, 4, 7, 7)},
		{[]string{"same AB+C+ 0"}, []int{0}, 6, world(6, 0, 0, 0)},
		// That an atom does not hold.
		{[]string{"sub A B"}, []int{0, no}, 2, world(2, 3, 2, 3)},
		{[]string{"least C 1"}, []int{0, no}, 1, world(1, 1, 1, 0)},
		// All members of a cube, and the Code alone says which atoms are members.
		{[]string{"least AB- 2", "most C 1"}, []int{0, 1, and}, 3, world(3, 7, 2, 4)},
		{[]string{"least AB- 2", "most C 1"}, []int{1}, 3, world(3, 7, 7, 4)},
		{[]string{"least AB- 2", "most C 1"}, []int{1, 0, no, and}, 3, world(3, 7, 7, 4)},
		{[]string{"least A 1", "least B 1", "same AB* 0"}, []int{0, 1, and, 2, and}, 2, world(2, 1, 2, 3)},
		// The first cube of which some fit, even if a later one's come ahead in the order of counts.
		{[]string{"most A 0", "least A 0"}, []int{0, 1, or}, 2, world(2, 0, 3, 3)},
		{[]string{"most A 0", "least A 0"}, []int{1, 0, or}, 2, full(2)},
		{[]string{"least A 3", "most A 1"}, []int{0, 1, or}, 2, world(2, 2, 3, 3)},
		{[]string{"least A 3", "most A 1"}, []int{0, 1, or}, 3, full(3)},
		{[]string{"least A 3", "least A 4", "most C 0"}, []int{0, 1, or, 2, or}, 2, world(2, 3, 3, 0)},
		{[]string{"least A 1", "most B 0"}, []int{0, 1, then}, 1, world(1, 0, 1, 1)},
		{[]string{"least 1 1", "most B 0"}, []int{0, 1, then}, 1, world(1, 1, 0, 1)},
		// An empty cube says nothing.
		{[]string{"most A 0"}, []int{0, 0, no, and, no}, 4, full(4)},
	} {
		askOf(t, of(t, c.texts, c.code...), c.u, c.want, api.OK)
	}
}

func TestAgainstByHand(t *testing.T) {
	for _, c := range []struct {
		texts []string
		code  []int
		u     int
		want  api.World
	}{
		{[]string{"least A 1"}, []int{0}, 2, world(2, 0, 3, 3)},
		{[]string{"most A 1"}, []int{0}, 2, full(2)},
		{[]string{"sub A B"}, []int{0}, 1, world(1, 1, 0, 1)},
		{[]string{"same A B"}, []int{0}, 1, world(1, 0, 1, 1)},
		{[]string{"least 1 1"}, []int{0}, 0, full(0)},
		{[]string{"sub A B", "sub B C"}, []int{0, 1, and}, 1, world(1, 1, 0, 1)},
		{[]string{"sub A B", "sub B C"}, []int{1, 0, and}, 1, world(1, 1, 0, 1)},
		{[]string{"sub B C", "sub A B"}, []int{1, 0, and}, 1, world(1, 1, 1, 0)},
		{[]string{"sub A B", "sub B A"}, []int{0, 1, or}, 2, world(2, 1, 2, 3)},
		{[]string{"sub A B", "sub B A"}, []int{0, 1, then}, 2, world(2, 2, 3, 3)},
		{[]string{"sub A B"}, []int{0, 0, no, and}, 5, full(5)},
		// Turned round twice, cubes of one member each go by atoms, not as they came.
		{[]string{"most A 0", "least A 0"}, []int{1, 0, or, no}, 2, world(2, 0, 3, 3)},
	} {
		askTurned(t, of(t, c.texts, c.code...), c.u, c.want, api.OK)
	}
}

// TestNone: there is no model at these numbers of things, and of the formula turned round none against it.
func TestNone(t *testing.T) {
	for _, c := range []struct {
		texts []string
		code  []int
		u     []int
	}{
		{[]string{"least A 1"}, []int{0}, []int{0}},
		{[]string{"least A 4"}, []int{0}, []int{0, 1, 2, 3}},
		{[]string{"least A 7"}, []int{0}, []int{0, 3, 6}},
		{[]string{"least A 20"}, []int{0}, []int{0, 3, 6}},
		{[]string{"most 1 2"}, []int{0}, []int{3, 4, 5, 6}},
		{[]string{"most 0 -1"}, []int{0}, []int{0, 1, 6}},
		{[]string{"same 0 1"}, []int{0}, []int{1, 2, 3, 4, 5, 6}},
		{[]string{"sub A A"}, []int{0, no}, []int{0, 1, 2, 3, 4, 5, 6}},
		// Half of them in A.
		{[]string{"nomore A A~ 0", "nomore A~ A 0"}, []int{0, 1, and}, []int{1, 3, 5}},
		{[]string{"sub A B", "least A 2", "most B 1"}, []int{0, 1, and, 2, and}, []int{0, 1, 2, 3, 4, 5, 6}},
		{[]string{"same A B", "least AB- 1", "least BA- 1"}, []int{0, 1, 2, or, and}, []int{0, 1, 2, 3, 4, 5, 6}},
		// Without any cube.
		{[]string{"sub A B"}, []int{0, 0, no, and}, []int{0, 1, 2, 3, 4, 5, 6}},
	} {
		f := of(t, c.texts, c.code...)
		for _, u := range c.u {
			askOf(t, f, u, api.World{}, api.ErrNone)
			askTurned(t, api.Form{Atoms: f.Atoms, Code: append(slices.Clone(c.code), no)}, u, api.World{}, api.ErrNone)
		}
	}
}

// pool of atoms of all kinds.
var pool = []string{
	"sub A B", "sub B C", "sub AB* C", "sub 1 AB+", "sub C A~", "same A B", "same AB- 0", "same C AB+", "same AB- BA-",
	"least A 1", "least B 2", "least AB-C- 1", "least 1 3", "least C~ 2", "most A 0", "most B 1", "most AB+ 2", "most 1 4", "most C 3",
	"nomore A B 0", "nomore B A -1", "nomore A C 1", "nomore AB+ C -1", "nomore C~ B -2", "nomore 1 A 1", "most 0 -1", "least A 7",
}

// chooser answers numbers from 0 to below n, one behind the other, always the same ones.
func chooser() func(n int) int {
	state := uint64(1)
	return func(n int) int {
		state = state*6364136223846793005 + 1442695040888963407
		return int(state >> 33 % uint64(n))
	}
}

// chosen is a right formula of up to six atoms of the pool, and of up to 20 signs.
func chosen(t *testing.T, choose func(n int) int) api.Form {
	t.Helper()
	var texts []string
	for range 1 + choose(6) {
		texts = append(texts, pool[choose(len(pool))])
	}
	two := func() int { return []int{and, or, and, then}[choose(4)] }
	last := choose(len(texts))
	code, depth, most := []int{last}, 1, 2+choose(19)
	// Each formula but one needs one more sign, that takes it.
	for len(code)+depth+1 <= most {
		switch k := choose(7); {
		case k == 0:
			code = append(code, no)
		case k <= 3 && depth >= 2:
			code, depth = append(code, two()), depth-1
		default:
			// Where atoms come again late there are more cubes.
			last = (last + 1 + choose(2)) % len(texts)
			code, depth = append(code, last), depth+1
		}
	}
	for range depth - 1 {
		code = append(code, two())
	}
	return of(t, texts, code...)
}

// inOrder are the worlds of all counts of u things, in chapter 8's order.
func inOrder(t *testing.T, u int) (out []api.World) {
	t.Helper()
	var fill func(n [cells]int, field, left int)
	fill = func(n [cells]int, field, left int) {
		if field == cells-1 {
			n[field] = left
			w, err := fields.World(n)
			if err != nil {
				t.Fatalf("World(%v): got %v", n, err)
			}
			out = append(out, w)
			return
		}
		for k := range left + 1 {
			n[field] = k
			fill(n, field+1, left-k)
		}
	}
	fill([cells]int{}, 0, u)
	return out
}

// found is the first of some worlds in which all of the first cube that has one are so; not ok, if there is none.
func found(t *testing.T, f api.Form, l [][]int, worlds []api.World) (api.World, bool) {
	t.Helper()
	for _, cube := range l {
		for _, w := range worlds {
			is, err := cubes.Holds(f, [][]int{cube}, w)
			if err != nil {
				t.Fatalf("Holds(%v, %v, %v): got %v", f, cube, w, err)
			}
			if is {
				return w, true
			}
		}
	}
	return api.World{}, false
}

// askFound asks for what is found, cube by cube, atom by atom, of a formula's worlds, or of those against it; it answers what it was told.
func askFound(t *testing.T, f api.Form, u int, worlds []api.World, against bool) (api.World, api.Errno) {
	t.Helper()
	got, err := Of(f, u)
	said := f
	var bad error
	if against {
		got, err = Against(f, u)
		said, bad = form.Negate(f)
	}
	var l [][]int
	if bad == nil {
		l, bad = cubes.Of(said)
	}
	want, ok := found(t, said, l, worlds)
	wrong := plain.Told(bad)
	if bad == nil && !ok {
		wrong = api.ErrNone
	}
	if got != want || plain.Told(err) != wrong {
		t.Errorf("%v, %d things, against it %t: got %v %v, want %v %v", f, u, against, got, plain.Told(err), want, wrong)
	}
	return got, plain.Told(err)
}

// TestChosen: against all counts in order; in a model it holds, in the one against it it does not.
func TestChosen(t *testing.T) {
	choose := chooser()
	var worlds [maxThings + 1][]api.World
	for u := range worlds {
		worlds[u] = inOrder(t, u)
	}
	var of, against [9]int
	for range 12000 {
		f := chosen(t, choose)
		if err := form.Check(f); err != nil {
			t.Fatalf("chosen: got %v, %v", f, err)
		}
		// More things take longer, so that they come less often.
		u := min(choose(maxThings+1), choose(maxThings+1))
		w, kind := askFound(t, f, u, worlds[u], false)
		of[kind]++
		if is, err := form.Holds(f, w); kind == api.OK && (!is || err != nil) {
			t.Errorf("Holds(%v, %v): got %t %v", f, w, is, err)
		}
		w, kind = askFound(t, f, u, worlds[u], true)
		against[kind]++
		if is, err := form.Holds(f, w); kind == api.OK && (is || err != nil) {
			t.Errorf("Holds(%v, %v): got %t %v", f, w, is, err)
		}
		askKind(t, f, u, kind)
	}
	for _, many := range [][9]int{of, against} {
		if many[api.OK] < 300 || many[api.ErrNone] < 50 || many[api.ErrFull] < 5 {
			t.Errorf("too few of a kind: of %v, against %v", of, against)
		}
	}
}

// askKind asks whether a formula is sure, where it is known what is told of a world against it.
func askKind(t *testing.T, f api.Form, u int, kind api.Errno) {
	t.Helper()
	switch kind {
	case api.OK:
		askSure(t, f, u, false, api.OK)
	case api.ErrNone:
		askSure(t, f, u, true, api.OK)
	default:
		askSure(t, f, u, false, kind)
	}
}

// TestAllWorlds: where there is no model, it holds in no world at all; where it is sure, in all.
func TestAllWorlds(t *testing.T) {
	choose := chooser()
	for range 400 {
		f := chosen(t, choose)
		u := choose(4)
		some, each := false, true
		for k := range 1 << (3 * u) {
			all := 1<<u - 1
			is, err := form.Holds(f, world(u, k&all, k>>u&all, k>>(2*u)))
			if err != nil {
				t.Fatalf("Holds(%v): got %v", f, err)
			}
			some, each = some || is, each && is
		}
		_, err := Of(f, u)
		if kind := plain.Told(err); kind != api.ErrFull && (kind == api.OK) != some {
			t.Errorf("Of(%v, %d): got %v, holds somewhere: %t", f, u, kind, some)
		}
		is, err := Sure(f, u)
		if kind := plain.Told(err); kind != api.ErrFull && (kind != api.OK || is != each) {
			t.Errorf("Sure(%v, %d): got %t %v, want %t", f, u, is, kind, each)
		}
	}
}

// askWrong asks for the same error of all three.
func askWrong(t *testing.T, f api.Form, u int, wrong api.Errno) {
	t.Helper()
	askOf(t, f, u, api.World{}, wrong)
	askAgainst(t, f, u, api.World{}, wrong)
	askSure(t, f, u, false, wrong)
}

// TestWrongFormulas: told ahead of wrong things; that a formula is empty does not make it sure.
func TestWrongFormulas(t *testing.T) {
	a := api.Atom{What: 3, S: []int{0}, N: 1}
	one := []api.Atom{a}
	for _, c := range []struct {
		f     api.Form
		wrong api.Errno
	}{
		{api.Form{}, api.ErrNone},
		{api.Form{Atoms: one}, api.ErrNone},
		{api.Form{Code: []int{0}}, api.ErrNone},
		{api.Form{Atoms: []api.Atom{{What: 3}}, Code: []int{0}}, api.ErrNone},
		{api.Form{Atoms: []api.Atom{a, {What: 1, S: []int{0}}}, Code: []int{0}}, api.ErrNone},
		{api.Form{Atoms: slices.Repeat(one, 7), Code: []int{0}}, api.ErrFull},
		{api.Form{Atoms: one, Code: append([]int{0}, slices.Repeat([]int{no}, maxCode)...)}, api.ErrFull},
		{api.Form{Atoms: []api.Atom{a, {}}, Code: []int{0}}, api.ErrRange},
		{api.Form{Atoms: []api.Atom{{What: 3, S: []int{0}, N: 21}}, Code: []int{0}}, api.ErrRange},
		{api.Form{Atoms: one, Code: []int{1}}, api.ErrRange},
		{api.Form{Atoms: one, Code: []int{-1}}, api.ErrRange},
		{api.Form{Atoms: one, Code: []int{math.MinInt}}, api.ErrRange},
		{api.Form{Atoms: []api.Atom{a, {What: 3, S: []int{0, 1}}}, Code: []int{0}}, api.ErrShape},
		{api.Form{Atoms: one, Code: []int{0, 0}}, api.ErrShape},
		{api.Form{Atoms: one, Code: []int{no}}, api.ErrShape},
		{api.Form{Atoms: one, Code: []int{0, and}}, api.ErrShape},
	} {
		for u := range maxThings + 1 {
			askWrong(t, c.f, u, c.wrong)
		}
		for _, u := range wrongThings {
			askWrong(t, c.f, u, c.wrong)
		}
	}
}

// TestFullOneWay: too many cubes, or signs, of the formula, or of its negation alone, are told ahead of wrong things.
func TestFullOneWay(t *testing.T) {
	six := []string{"least A 0", "least B 0", "least C 0", "sub 0 A", "sub 0 B", "sub 0 C"}
	long := append([]int{0}, slices.Repeat([]int{no}, maxCode-1)...)
	three := []int{2, 4, 0, 1, and, no, 3, or, 5, 0, 1, then, and, then, and, and}
	for _, c := range []struct {
		code    []int
		of, not api.Errno
	}{
		// With No behind it there are 21 signs.
		{long, api.OK, api.ErrFull},
		{long[:maxCode-1], api.OK, api.OK},
		{[]int{1, 4, and, 3, 2, 5, or, and, 0, or, and, no, 5, 5, then, and}, api.ErrFull, api.ErrFull},
		// Three cubes, of which No makes too many.
		{three, api.OK, api.ErrFull},
		{append(slices.Clone(three), no), api.ErrFull, api.ErrFull},
	} {
		f := of(t, six, c.code...)
		for u := -2; u <= maxThings+2; u++ {
			isOf, isNot := c.of, c.not
			if u < 0 || u > maxThings {
				isOf, isNot = orElse(isOf), orElse(isNot)
			}
			if isOf != api.OK {
				askOf(t, f, u, api.World{}, isOf)
			} else if w, err := Of(f, u); err != nil && plain.Told(err) != api.ErrNone {
				t.Errorf("Of(%v, %d): got %v %v", f, u, w, err)
			}
			if isNot != api.OK {
				askTurned(t, f, u, api.World{}, isNot)
			} else if w, err := Against(f, u); err != nil && plain.Told(err) != api.ErrNone {
				t.Errorf("Against(%v, %d): got %v %v", f, u, w, err)
			}
		}
	}
}

// orElse is what is told of a formula where the things are wrong.
func orElse(wrong api.Errno) api.Errno {
	if wrong == api.OK {
		return api.ErrRange
	}
	return wrong
}

// TestWrongThings: told ahead of that there is none, also where there is no cube.
func TestWrongThings(t *testing.T) {
	for _, u := range wrongThings {
		for _, code := range [][]int{{0}, {0, no}, {0, 0, no, and}, {0, 0, no, and, no}, {0, 0, no, or}, {1}, {1, no}} {
			askWrong(t, of(t, []string{"least A 1", "sub A A"}, code...), u, api.ErrRange)
		}
	}
}

// spare has a list, with wrong numbers in the memory behind its length.
func spare(list []int) []int {
	return append(slices.Clone(list), 99, -99, 12)[:len(list)]
}

// TestNothingIsWritten: into a formula that is handed in, or what lies behind its lists; and that is not read.
func TestNothingIsWritten(t *testing.T) {
	made := func() api.Form {
		f := of(t, []string{"sub A B", "nomore C A -1", "least AB+ 2"}, 0, 1, and, 2, no, or)
		f.Code = spare(f.Code)
		for i := range f.Atoms {
			f.Atoms[i].S, f.Atoms[i].T = spare(f.Atoms[i].S), spare(f.Atoms[i].T)
		}
		f.Atoms = append(f.Atoms, api.Atom{What: 9})[:3]
		return f
	}
	f, keep := made(), made()
	for u := -1; u <= maxThings+1; u++ {
		for range 2 {
			Of(f, u)
			Against(f, u)
			Sure(f, u)
		}
	}
	if !reflect.DeepEqual(whole(f), whole(keep)) {
		t.Errorf("got %v, want %v", whole(f), whole(keep))
	}
	askOf(t, f, 2, world(2, 3, 3, 2), api.OK)
	askTurned(t, f, 2, world(2, 3, 2, 3), api.OK)
}

// whole is a formula with what lies behind its lists.
func whole(f api.Form) api.Form {
	f.Code, f.Atoms = f.Code[:cap(f.Code)], slices.Clone(f.Atoms[:cap(f.Atoms)])
	for i, a := range f.Atoms {
		f.Atoms[i].S, f.Atoms[i].T = a.S[:cap(a.S)], a.T[:cap(a.T)]
	}
	return f
}

// TestSameAgain: what is answered does not hang on calls before, nor on that one of them was wrong.
func TestSameAgain(t *testing.T) {
	f := of(t, []string{"most A 1", "least B 3"}, 0, 1, and)
	for range 3 {
		askOf(t, f, 3, world(3, 4, 7, 7), api.OK)
		askOf(t, f, 7, api.World{}, api.ErrRange)
		askOf(t, f, 2, api.World{}, api.ErrNone)
		askTurned(t, f, 2, full(2), api.OK)
		askTurned(t, f, -1, api.World{}, api.ErrRange)
		askWrong(t, api.Form{}, 3, api.ErrNone)
	}
}
