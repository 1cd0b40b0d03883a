package core

import (
	"math"
	"reflect"
	"slices"
	"testing"

	"vennhouse/api"
	"vennhouse/atom"
	"vennhouse/cubes"
	"vennhouse/form"
	"vennhouse/model"
	"vennhouse/plain"
)

// The numbers as chapters 1, 4 and 13 and package api write them, so that the names are held against them, too.
const (
	and  = 10
	or   = 11
	no   = 12
	then = 13

	maxThings = 6
	maxForms  = 6
	maxAtoms  = 6
	maxCode   = 20
)

// wrongThings are numbers of things that are none.
var wrongThings = []int{
	-1, -2, -6, 7, 8, 9, 62, 63, 64, 1 << 31, 1 << 32, 1 << 62, -1 << 32,
	math.MinInt, math.MinInt + 1, math.MinInt + 6, math.MaxInt - 1, math.MaxInt,
}

// of has atoms, as texts, and a Code.
func of(t *testing.T, texts []string, code ...int) api.Form {
	t.Helper()
	f := api.Form{Code: code}
	for _, text := range texts {
		a, err := atom.Parse(text)
		if err != nil {
			t.Fatalf("Parse(%q): got %v", text, err)
		}
		f.Atoms = append(f.Atoms, a)
	}
	return f
}

// ones are formulas of one atom each.
func ones(t *testing.T, texts ...string) (l []api.Form) {
	t.Helper()
	for _, text := range texts {
		l = append(l, of(t, []string{text}, 0))
	}
	return l
}

// every world of u things.
func every(u int) (out []api.World) {
	for a := range 1 << u {
		for b := range 1 << u {
			for c := range 1 << u {
				out = append(out, api.World{Things: u, Has: [3]int{a, b, c}})
			}
		}
	}
	return out
}

func askOpen(t *testing.T, l []api.Form, u int, want bool, wrong api.Errno) {
	t.Helper()
	got, err := Open(l, u)
	if got != want || plain.Told(err) != wrong {
		t.Errorf("Open(%v, %d): got %t %v, want %t %v", l, u, got, plain.Told(err), want, wrong)
	}
}

func askOf(t *testing.T, l []api.Form, u int, want []int, wrong api.Errno) {
	t.Helper()
	got, err := Of(l, u)
	if !slices.Equal(got, want) || plain.Told(err) != wrong {
		t.Errorf("Of(%v, %d): got %v %v, want %v %v", l, u, got, plain.Told(err), want, wrong)
	}
}

// askBoth asks of right formulas and things: those that are wanted are enough; if none are, they are open.
func askBoth(t *testing.T, l []api.Form, u int, want []int) {
	t.Helper()
	if len(want) == 0 {
		askOpen(t, l, u, true, api.OK)
		askOf(t, l, u, nil, api.ErrFree)
		return
	}
	askOpen(t, l, u, false, api.OK)
	askOf(t, l, u, want, api.OK)
}

// askWrong asks for an error of both.
func askWrong(t *testing.T, l []api.Form, u int, wrong api.Errno) {
	t.Helper()
	askOpen(t, l, u, false, wrong)
	askOf(t, l, u, nil, wrong)
}

func TestNumbersOfTheChapter(t *testing.T) {
	got := [...]int{api.And, api.Or, api.No, api.Then, api.MaxThings, api.MaxForms, api.MaxAtoms, api.MaxCode}
	want := [...]int{and, or, no, then, maxThings, maxForms, maxAtoms, maxCode}
	if got != want {
		t.Errorf("numbers: got %v, want %v", got, want)
	}
	if api.ErrFree != 8 {
		t.Errorf("ErrFree: got %d", int(api.ErrFree))
	}
}

// TestErrorIsNil: where nothing is wrong the error is nil, not an OK in an error.
func TestErrorIsNil(t *testing.T) {
	for _, text := range []string{"least A 1", "least A 7"} {
		if _, err := Open(ones(t, text), 2); err != nil {
			t.Errorf("Open %q: got %v", text, err)
		}
	}
	if _, err := Of(ones(t, "least A 7"), 2); err != nil {
		t.Errorf("Of: got %v", err)
	}
}

func TestByHand(t *testing.T) {
	for _, c := range []struct {
		texts []string
		u     int
		want  []int
	}{
		{[]string{"least A 1"}, 1, nil},
		{[]string{"least A 1"}, 0, []int{0}},
		{[]string{"least A 6"}, 6, nil},
		{[]string{"least A 6"}, 5, []int{0}},
		{[]string{"least A 7"}, 6, []int{0}},
		{[]string{"most A -1"}, 0, []int{0}},
		{[]string{"sub A B", "sub B C", "sub C A"}, 3, nil},
		{[]string{"least A 1", "most A 0"}, 3, []int{0, 1}},
		{[]string{"most A 0", "least A 1"}, 3, []int{0, 1}},
		{[]string{"least A 1", "least B 1", "most A 0"}, 3, []int{0, 2}},
		{[]string{"least B 1", "least A 1", "most A 0", "least C 1"}, 3, []int{1, 2}},
		// Only of few things they exclude each other.
		{[]string{"least A 2", "least B 2", "same AB* 0"}, 3, []int{0, 1, 2}},
		{[]string{"least A 2", "least B 2", "same AB* 0"}, 4, nil},
		{[]string{"least A 3", "least B 3", "same AB* 0"}, 6, nil},
		{[]string{"least A 3", "least B 4", "same AB* 0"}, 6, []int{0, 1, 2}},
		{[]string{"least A 3", "least B 3", "same AB* 0", "least C 1", "sub C AB+~"}, 6, []int{0, 1, 2, 3, 4}},
		{[]string{"least A 2", "least B 2", "least C 2", "same AB* 0", "same AC* 0", "same BC* 0"}, 5, []int{0, 1, 2, 3, 4, 5}},
		{[]string{"least A 2", "least B 2", "least C 2", "same AB* 0", "same AC* 0", "same BC* 0"}, 6, nil},
		// The first ones are left out, where either of two would be enough.
		{[]string{"least A 1", "least A 1", "most A 0"}, 3, []int{1, 2}},
		{[]string{"most A 0", "least A 1", "least A 1"}, 3, []int{0, 2}},
		{[]string{"most A 0", "least A 1", "most A 0", "least A 1"}, 3, []int{2, 3}},
		{[]string{"least A 7", "least A 1", "most A 0"}, 3, []int{1, 2}},
		{[]string{"least A 1", "least A 7", "most A 0"}, 3, []int{1}},
		{[]string{"least A 1", "most A 0", "least A 7"}, 3, []int{2}},
		{[]string{"least A 7", "least A 7", "least A 7"}, 3, []int{2}},
		{[]string{"most 0 -1", "least A 7", "most 0 -1", "least A 7", "most 0 -1", "least A 1"}, 3, []int{4}},
		// What is left out later goes by what was left out before: not the fewest that do.
		{[]string{"least A 7", "sub A B", "sub B C", "least AC- 1"}, 3, []int{1, 2, 3}},
		{[]string{"sub A B", "least A 7", "sub B C", "least AC- 1"}, 3, []int{1}},
		// A chain, with one beside it.
		{[]string{"sub A B", "most A 1", "sub B C", "least AC- 1"}, 2, []int{0, 2, 3}},
		{[]string{"nomore A B -1", "nomore B C -1", "nomore C A 1"}, 4, []int{0, 1, 2}},
		{[]string{"nomore A B -1", "nomore B C -1", "nomore C A 2"}, 4, nil},
		{[]string{"nomore A B -1", "nomore B C -1", "nomore C A 2"}, 1, []int{0, 1}},
		// Any two are open, all three are not.
		{[]string{"same A B", "same B C~", "same A C"}, 1, []int{0, 1, 2}},
		{[]string{"same A B", "same B C~", "same A C"}, 0, nil},
	} {
		askBoth(t, ones(t, c.texts...), c.u, c.want)
	}
}

// TestPutTogether: formulas of several atoms, by hand.
func TestPutTogether(t *testing.T) {
	parts := []string{"sub A B", "sub B A", "least A 2"}
	first := of(t, parts, 0, 1, or)
	neither := of(t, parts, 0, no, 1, no, and)
	both := of(t, parts, 0, 1, and)
	two := of(t, parts, 2, 0, then)
	for _, c := range []struct {
		l    []api.Form
		u    int
		want []int
	}{
		{[]api.Form{first, neither}, 4, []int{0, 1}},
		{[]api.Form{both, neither}, 4, []int{0, 1}},
		{[]api.Form{first, both, neither}, 4, []int{1, 2}},
		{[]api.Form{both, first, neither}, 4, []int{1, 2}},
		{[]api.Form{first, both, two}, 4, nil},
		{[]api.Form{neither, two}, 2, nil},
		// Each of A and B has one that the other has not.
		{[]api.Form{neither}, 1, []int{0}},
		{[]api.Form{neither, of(t, parts, 2), two}, 4, []int{0, 1, 2}},
		{[]api.Form{of(t, parts, 0, 0, no, and), first}, 4, []int{0}},
		{[]api.Form{of(t, parts, 0, 0, no, or), both}, 4, nil},
	} {
		askBoth(t, c.l, c.u, c.want)
	}
}

// pool of atoms of all kinds.
var pool = []string{
	"sub A B", "sub B C", "sub AB* C", "sub 1 AB+", "sub C A~", "same A B", "same AB- 0", "same C AB+", "same AB- BA-",
	"least A 1", "least B 2", "least AB-C- 1", "least 1 3", "least C~ 2", "most A 0", "most B 1", "most AB+ 2", "most 1 4", "most C 3",
	"nomore A B 0", "nomore B A -1", "nomore A C 1", "nomore AB+ C -1", "nomore C~ B -2", "nomore 1 A 1", "most 0 -1", "least A 7",
}

// chooser answers numbers from 0 to below n, one behind the other, always the same ones.
func chooser() func(n int) int {
	state := uint64(1)
	return func(n int) int {
		state = state*6364136223846793005 + 1442695040888963407
		return int(state >> 33 % uint64(n))
	}
}

// chosen is a right formula of up to six atoms of the pool, and of up to so many signs.
func chosen(t *testing.T, choose func(n int) int, signs int) api.Form {
	t.Helper()
	var texts []string
	for range 1 + choose(maxAtoms) {
		texts = append(texts, pool[choose(len(pool))])
	}
	two := func() int { return []int{and, or, and, then}[choose(4)] }
	code, depth, most := []int{choose(len(texts))}, 1, 1+choose(signs)
	// Each formula but one needs one more sign, that takes it.
	for len(code)+depth+1 <= most {
		switch k := choose(7); {
		case k == 0:
			code = append(code, no)
		case k <= 3 && depth >= 2:
			code, depth = append(code, two()), depth-1
		default:
			code, depth = append(code, choose(len(texts))), depth+1
		}
	}
	for range depth - 1 {
		code = append(code, two())
	}
	return of(t, texts, code...)
}

// someChosen are up to six formulas.
func someChosen(t *testing.T, choose func(n int) int) (l []api.Form) {
	t.Helper()
	signs := []int{1, 3, 5, maxCode}[choose(4)]
	for range 1 + choose(maxForms) {
		l = append(l, chosen(t, choose, signs))
	}
	return l
}

// meet tells whether in one of the worlds all hold.
func meet(t *testing.T, l []api.Form, list []api.World) bool {
	t.Helper()
	for _, w := range list {
		all := true
		for _, f := range l {
			is, err := form.Holds(f, w)
			if err != nil {
				t.Fatalf("Holds(%v, %v): got %v", f, w, err)
			}
			all = all && is
		}
		if all {
			return true
		}
	}
	return false
}

// picked are those at some places.
func picked(l []api.Form, places []int) (out []api.Form) {
	for _, i := range places {
		out = append(out, l[i])
	}
	return out
}

// leftOut are the places that are left, one by one, by the words of the chapter; none, if all hold in one of the worlds.
func leftOut(t *testing.T, l []api.Form, list []api.World) (places []int) {
	t.Helper()
	if meet(t, l, list) {
		return nil
	}
	for i := range l {
		places = append(places, i)
	}
	for i := range l {
		without := slices.DeleteFunc(slices.Clone(places), func(k int) bool { return k == i })
		if !meet(t, picked(l, without), list) {
			places = without
		}
	}
	return places
}

// TestOneByOne: against every world of up to three things.
func TestOneByOne(t *testing.T) {
	var lists [4][]api.World
	for u := range lists {
		lists[u] = every(u)
	}
	choose := chooser()
	var lengths [maxForms + 1]int
	for range 1500 {
		l, u := someChosen(t, choose), choose(len(lists))
		want := leftOut(t, l, lists[u])
		askBoth(t, l, u, want)
		lengths[len(want)]++
	}
	if slices.Min(lengths[:4]) < 5 {
		t.Errorf("too few of a kind: %v", lengths)
	}
}

// TestEnough: those that are told are enough, and none of them is too many, of each number of things.
func TestEnough(t *testing.T) {
	choose := chooser()
	several := 0
	for range 300 {
		l, u := someChosen(t, choose), choose(maxThings+1)
		open, err := Open(l, u)
		if err != nil {
			t.Fatalf("Open(%v, %d): got %v", l, u, err)
		}
		places, err := Of(l, u)
		if open {
			askBoth(t, l, u, nil)
			continue
		}
		if err != nil || len(places) == 0 || !slices.IsSorted(places) {
			t.Fatalf("Of(%v, %d): got %v %v", l, u, places, err)
		}
		askOpen(t, picked(l, places), u, false, api.OK)
		if len(places) == 1 {
			continue
		}
		several++
		for _, i := range places {
			without := slices.DeleteFunc(slices.Clone(places), func(k int) bool { return k == i })
			askOpen(t, picked(l, without), u, true, api.OK)
		}
	}
	if several < 20 {
		t.Errorf("too few with several: %d", several)
	}
}

// TestAgainstModel: what is open has a model in which all hold, put together as one formula, of each number of things.
func TestAgainstModel(t *testing.T) {
	choose := chooser()
	var open, not int
	for range 300 {
		var l []api.Form
		one := api.Form{}
		for i := range 1 + choose(maxForms) {
			a := of(t, []string{pool[choose(len(pool))]}, 0)
			l = append(l, a)
			if i == 0 {
				one = a
				continue
			}
			var err error
			if one, err = form.Both(one, a); err != nil {
				t.Fatalf("Both: got %v", err)
			}
		}
		for u := range maxThings + 1 {
			_, err := model.Of(one, u)
			askOpen(t, l, u, err == nil, api.OK)
			if err == nil {
				open++
			} else {
				not++
			}
		}
	}
	if min(open, not) < 100 {
		t.Errorf("too few of a kind: open %d, not %d", open, not)
	}
}

// TestManyCubes: of formulas that have too many cubes, or no room for one more sign, both are told, too.
func TestManyCubes(t *testing.T) {
	code := []int{1, 4, and, 3, 2, 5, or, and, 0, or, and, no, 5, 5, then, and}
	never := of(t, []string{"least A 0", "least B 0", "least C 0", "sub 0 A", "sub 0 B", "sub 0 C"}, code...)
	noneInB := of(t, []string{"least A 0", "least B 1", "least C 0", "sub 0 A", "sub 0 B", "sub 0 C"}, code...)
	for _, f := range []api.Form{never, noneInB} {
		if _, err := cubes.Of(f); plain.Told(err) != api.ErrFull {
			t.Fatalf("cubes.Of(%v): got %v", f, err)
		}
	}
	noneInA := of(t, []string{"least A 1"}, append([]int{0}, slices.Repeat([]int{no}, maxCode-1)...)...)
	someInA, someInB := of(t, []string{"least A 1"}, 0), of(t, []string{"least B 1"}, 0)
	for u := range maxThings + 1 {
		askBoth(t, []api.Form{never}, u, []int{0})
		askBoth(t, []api.Form{noneInB}, u, nil)
		askBoth(t, slices.Repeat([]api.Form{noneInA}, maxForms), u, nil)
		askBoth(t, []api.Form{noneInB, noneInA, someInB, never}, u, []int{3})
		if u == 0 {
			continue
		}
		askBoth(t, []api.Form{noneInB, noneInA, someInB, noneInB}, u, []int{2, 3})
		askBoth(t, append(slices.Repeat([]api.Form{noneInA}, maxForms-1), someInA), u, []int{4, 5})
	}
}

// wrongFormula is none, and what is wrong with it.
type wrongFormula struct {
	f     api.Form
	wrong api.Errno
}

// wrongFormulas are formulas that are none, and what chapter 4 says of them.
func wrongFormulas() []wrongFormula {
	a := api.Atom{What: 3, S: []int{0}, N: 1}
	one := []api.Atom{a}
	return []wrongFormula{
		{api.Form{}, api.ErrNone},
		{api.Form{Atoms: one}, api.ErrNone},
		{api.Form{Atoms: one, Code: []int{}}, api.ErrNone},
		{api.Form{Code: []int{0}}, api.ErrNone},
		{api.Form{Atoms: []api.Atom{{What: 3}}, Code: []int{0}}, api.ErrNone},
		{api.Form{Atoms: []api.Atom{a, {What: 1, S: []int{0}}}, Code: []int{0}}, api.ErrNone},
		{api.Form{Atoms: slices.Repeat(one, 7), Code: []int{0}}, api.ErrFull},
		{api.Form{Atoms: one, Code: append([]int{0}, slices.Repeat([]int{no}, maxCode)...)}, api.ErrFull},
		{api.Form{Atoms: []api.Atom{{What: 3, S: slices.Repeat([]int{0}, 13)}}, Code: []int{0}}, api.ErrFull},
		{api.Form{Atoms: []api.Atom{a, {}}, Code: []int{0}}, api.ErrRange},
		{api.Form{Atoms: []api.Atom{{What: 6, S: []int{0}}}, Code: []int{0}}, api.ErrRange},
		{api.Form{Atoms: []api.Atom{{What: 3, S: []int{9}}}, Code: []int{0}}, api.ErrRange},
		{api.Form{Atoms: []api.Atom{{What: 3, S: []int{0}, N: 21}}, Code: []int{0}}, api.ErrRange},
		{api.Form{Atoms: one, Code: []int{1}}, api.ErrRange},
		{api.Form{Atoms: one, Code: []int{-1}}, api.ErrRange},
		{api.Form{Atoms: one, Code: []int{14}}, api.ErrRange},
		{api.Form{Atoms: one, Code: []int{math.MinInt}}, api.ErrRange},
		{api.Form{Atoms: one, Code: []int{math.MaxInt}}, api.ErrRange},
		{api.Form{Atoms: []api.Atom{a, {What: 3, S: []int{0, 1}}}, Code: []int{0}}, api.ErrShape},
		{api.Form{Atoms: []api.Atom{{What: 3, S: []int{0}, T: []int{0}}}, Code: []int{0}}, api.ErrShape},
		{api.Form{Atoms: one, Code: []int{0, 0}}, api.ErrShape},
		{api.Form{Atoms: one, Code: []int{no}}, api.ErrShape},
		{api.Form{Atoms: one, Code: []int{0, and}}, api.ErrShape},
	}
}

// TestWrongFormulas: told ahead of wrong things, at whichever place; of several, the first one's fault.
func TestWrongFormulas(t *testing.T) {
	right := ones(t, "least A 1", "most A 0", "sub A B", "same B C", "least A 7", "most C 3")
	bad := wrongFormulas()
	for _, c := range bad {
		for many := range maxForms {
			for at := range many + 1 {
				l := slices.Insert(slices.Clone(right[:many]), at, c.f)
				for _, u := range []int{0, 3, maxThings, -1, maxThings + 1, math.MinInt, math.MaxInt} {
					askWrong(t, l, u, c.wrong)
				}
			}
		}
		for _, other := range bad {
			askWrong(t, []api.Form{right[0], c.f, other.f}, 3, c.wrong)
		}
	}
}

// TestNoneAndFull: told ahead of all else.
func TestNoneAndFull(t *testing.T) {
	right := ones(t, "least A 1")[0]
	six := slices.Repeat([]api.Form{right}, maxForms)
	for u := -1; u <= maxThings+1; u++ {
		askWrong(t, nil, u, api.ErrNone)
		askWrong(t, []api.Form{}, u, api.ErrNone)
		askWrong(t, six[:0], u, api.ErrNone)
		for _, many := range []int{1, 2, 10, 58, 100} {
			askWrong(t, append(slices.Clone(six), slices.Repeat([]api.Form{right}, many)...), u, api.ErrFull)
			for _, c := range wrongFormulas() {
				askWrong(t, append(slices.Repeat([]api.Form{c.f}, many), six...), u, api.ErrFull)
				askWrong(t, append(slices.Clone(six), slices.Repeat([]api.Form{c.f}, many)...), u, api.ErrFull)
			}
		}
	}
	askBoth(t, six, 1, nil)
	askBoth(t, six, 0, []int{5})
}

// TestWrongThings: told of formulas that are open, and of such that are not.
func TestWrongThings(t *testing.T) {
	for _, u := range wrongThings {
		askWrong(t, ones(t, "least A 1"), u, api.ErrRange)
		askWrong(t, ones(t, "least A 7"), u, api.ErrRange)
		askWrong(t, ones(t, "least A 1", "most A 0"), u, api.ErrRange)
		askWrong(t, ones(t, "sub A A", "sub B B", "sub C C", "sub A A", "sub B B", "sub C C"), u, api.ErrRange)
	}
}

// spare has a list, with wrong numbers in the memory behind its length.
func spare(list []int) []int {
	return append(slices.Clone(list), 99, -99, 12)[:len(list)]
}

// roomy has a formula whose lists all have something wrong behind them.
func roomy(f api.Form) api.Form {
	f.Code = spare(f.Code)
	for i := range f.Atoms {
		f.Atoms[i].S, f.Atoms[i].T = spare(f.Atoms[i].S), spare(f.Atoms[i].T)
	}
	f.Atoms = append(f.Atoms, api.Atom{What: 9})[:len(f.Atoms)]
	return f
}

// whole are formulas with what lies behind their lists.
func whole(l []api.Form) []api.Form {
	out := slices.Clone(l[:cap(l)])
	for k, f := range out {
		f.Code, f.Atoms = f.Code[:cap(f.Code)], slices.Clone(f.Atoms[:cap(f.Atoms)])
		for i, a := range f.Atoms {
			f.Atoms[i].S, f.Atoms[i].T = a.S[:cap(a.S)], a.T[:cap(a.T)]
		}
		out[k] = f
	}
	return out
}

// TestNothingIsWritten: into formulas that are handed in, or what lies behind their lists; and that is not read.
func TestNothingIsWritten(t *testing.T) {
	made := func() []api.Form {
		l := []api.Form{
			roomy(of(t, []string{"sub A B", "nomore C A -1", "least AB+ 2"}, 0, 1, and, 2, no, or)),
			roomy(of(t, []string{"least A 1", "least B 1"}, 0, 1, or)),
			roomy(of(t, []string{"most AB+ 0"}, 0)),
		}
		return append(l, api.Form{Code: []int{99}}, api.Form{})[:3]
	}
	l, keep := made(), made()
	for u := -1; u <= maxThings+1; u++ {
		Open(l, u)
		Of(l, u)
		Open(l[:2], u)
		Of(l[:2], u)
	}
	if !reflect.DeepEqual(whole(l), whole(keep)) {
		t.Errorf("got %v, want %v", whole(l), whole(keep))
	}
	askBoth(t, l, 3, []int{1, 2})
	askBoth(t, l[:2], 3, nil)
}

// TestFresh: what is answered is the caller's, to write into.
func TestFresh(t *testing.T) {
	l := ones(t, "least B 1", "least A 1", "most A 0")
	for range 3 {
		got, err := Of(l, 3)
		if !slices.Equal(got, []int{1, 2}) || err != nil {
			t.Fatalf("Of: got %v %v", got, err)
		}
		for i := range got[:cap(got)] {
			got[:cap(got)][i] = 99
		}
	}
}

// TestSameAgain: what is answered does not hang on calls before, nor on that one of them was wrong.
func TestSameAgain(t *testing.T) {
	l := ones(t, "least B 1", "least A 2", "most A 1")
	for range 3 {
		askBoth(t, l, 3, []int{1, 2})
		askBoth(t, l[:2], 3, nil)
		askBoth(t, l, 1, []int{1})
		askWrong(t, l, 7, api.ErrRange)
		askWrong(t, nil, 3, api.ErrNone)
		askWrong(t, []api.Form{l[0], {}}, 3, api.ErrNone)
	}
}
