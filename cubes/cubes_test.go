package cubes

import (
	"math"
	"slices"
	"testing"

	"vennhouse/api"
	"vennhouse/form"
	"vennhouse/plain"
)

// The numbers as chapters 4 and 5 and package api write them, so that the names are held against them, too.
const (
	and  = 10
	or   = 11
	no   = 12
	then = 13

	maxCode  = 20
	maxCubes = 40
)

// six right atoms, each unlike the others; the first three tell whether A, B and C have a thing.
var six = []api.Atom{
	{What: 3, S: []int{0}, N: 1},
	{What: 3, S: []int{1}, N: 1},
	{What: 3, S: []int{2}, N: 1},
	{What: 1, S: []int{0}, T: []int{1}},
	{What: 2, S: []int{1, 2, 6}, T: []int{2}},
	{What: 5, S: []int{2}, T: []int{0}, N: -1},
}

// wrongForms are formulas that are none, and what chapter 4 says of them.
var wrongForms = []struct {
	f     api.Form
	wrong api.Errno
}{
	{api.Form{}, api.ErrNone},
	{api.Form{Code: []int{0}}, api.ErrNone},
	{of(1), api.ErrNone},
	{api.Form{Atoms: slices.Repeat(six[:1], 7), Code: []int{0}}, api.ErrFull},
	{of(1, append([]int{0}, slices.Repeat([]int{no}, 20)...)...), api.ErrFull},
	{api.Form{Atoms: []api.Atom{six[0], {}}, Code: []int{0}}, api.ErrRange},
	{api.Form{Atoms: []api.Atom{{What: 3}, {}}, Code: []int{0}}, api.ErrNone},
	{api.Form{Atoms: []api.Atom{six[0], {What: 3, S: []int{0, 1}}}, Code: []int{0}}, api.ErrShape},
	{of(2, 2), api.ErrRange},
	{of(2, -1), api.ErrRange},
	{of(2, 0, 14), api.ErrRange},
	{of(2, 0, 1), api.ErrShape},
	{of(2, and), api.ErrShape},
	{of(2, no), api.ErrShape},
	{of(2, 0, or), api.ErrShape},
	{of(2, 0, then, 1), api.ErrShape},
}

// of has so many of the six atoms, and a Code.
func of(atoms int, code ...int) api.Form {
	return api.Form{Atoms: six[:atoms:atoms], Code: code}
}

// oneThing has a world for each choice of which of A, B and C have a thing.
func oneThing() (out []api.World) {
	for k := range 8 {
		out = append(out, api.World{Things: 1, Has: [3]int{k % 2, k / 2 % 2, k / 4}})
	}
	return out
}

// ways is a cube of its own kind: for each atom 1, if it holds, -1, if it does not, or 0.
type ways [6]int

// listed is cubes of that kind as the chapter writes them.
func listed(l []ways) (out [][]int) {
	for _, w := range l {
		cube := []int{}
		for i, way := range w {
			if way != 0 {
				cube = append(cube, way*(i+1))
			}
		}
		out = append(out, cube)
	}
	return out
}

// meet is the cube of two, or not ok, if an atom is there both ways.
func meet(v, w ways) (out ways, ok bool) {
	for i := range out {
		if v[i]*w[i] < 0 {
			return out, false
		}
		out[i] = v[i]
		if v[i] == 0 {
			out[i] = w[i]
		}
	}
	return out, true
}

// once has those of a list that were not there ahead, and tells whether they are too many.
func once(all []ways) (out []ways, full bool) {
	for _, w := range all {
		if !slices.Contains(out, w) {
			out = append(out, w)
		}
	}
	return out, len(out) > maxCubes
}

func modelAnd(first, second []ways) ([]ways, bool) {
	var all []ways
	for _, v := range first {
		for _, w := range second {
			if u, ok := meet(v, w); ok {
				all = append(all, u)
			}
		}
	}
	return once(all)
}

// modelNo goes on behind a cube with which there are too many, so as to show that it is told all the same.
func modelNo(l []ways) (out []ways, full bool) {
	out = []ways{{}}
	for _, cube := range l {
		var turned []ways
		for i, way := range cube {
			if way != 0 {
				var alone ways
				alone[i] = -way
				turned = append(turned, alone)
			}
		}
		var much bool
		out, much = modelAnd(out, turned)
		full = full || much
	}
	return out, full
}

// model goes over a right Code from its end: the cubes of its last formula, what stands ahead of that, and whether there were too many anywhere.
func model(code []int) (out []ways, ahead []int, full bool) {
	last, ahead := code[len(code)-1], code[:len(code)-1]
	if last < and {
		var alone ways
		alone[last] = 1
		return []ways{alone}, ahead, false
	}
	second, ahead, full := model(ahead)
	if full {
		return nil, nil, true
	}
	if last == no {
		out, full = modelNo(second)
		return out, ahead, full
	}
	first, ahead, full := model(ahead)
	if full {
		return nil, nil, true
	}
	if last == and {
		out, full = modelAnd(first, second)
		return out, ahead, full
	}
	if last == then {
		if first, full = modelNo(first); full {
			return nil, nil, true
		}
	}
	out, full = once(slices.Concat(first, second))
	return out, ahead, full
}

// isRight tells whether a Code is one formula.
func isRight(code []int) bool {
	depth := 0
	for _, sign := range code {
		switch {
		case sign < and:
			depth++
		case sign == no && depth < 1, sign != no && depth < 2:
			return false
		case sign != no:
			depth--
		}
	}
	return depth == 1
}

func equal(l, m [][]int) bool {
	return slices.EqualFunc(l, m, func(c, d []int) bool { return slices.Equal(c, d) })
}

func askOf(t *testing.T, f api.Form, want [][]int, wrong api.Errno) {
	t.Helper()
	got, err := Of(f)
	if !equal(got, want) || plain.Told(err) != wrong {
		t.Errorf("Of(%v): got %v %v, want %v %v", f, got, plain.Told(err), want, wrong)
	}
}

func askHolds(t *testing.T, f api.Form, l [][]int, w api.World, want bool, wrong api.Errno) {
	t.Helper()
	got, err := Holds(f, l, w)
	if got != want || plain.Told(err) != wrong {
		t.Errorf("Holds(%v, %v, %v): got %t %v, want %t %v", f, l, w, got, plain.Told(err), want, wrong)
	}
}

// askCode asks for what the model says, and whether the cubes say what the formula says, in each of these worlds.
func askCode(t *testing.T, atoms int, code []int, worlds []api.World) (full bool) {
	t.Helper()
	f := of(atoms, code...)
	want, _, full := model(code)
	if full {
		askOf(t, f, nil, api.ErrFull)
		return true
	}
	askOf(t, f, listed(want), api.OK)
	l, _ := Of(f)
	for _, w := range worlds {
		is, err := form.Holds(f, w)
		if err != nil {
			t.Fatalf("form.Holds(%v, %v): got %v", f, w, err)
		}
		askHolds(t, f, l, w, is, api.OK)
	}
	return false
}

func TestNumbersOfTheChapter(t *testing.T) {
	got := [...]int{api.And, api.Or, api.No, api.Then, api.MaxCode, api.MaxCubes}
	want := [...]int{and, or, no, then, maxCode, maxCubes}
	if got != want {
		t.Errorf("numbers: got %v, want %v", got, want)
	}
}

// TestErrorIsNil: where nothing is wrong the error is nil, not an OK in an error.
func TestErrorIsNil(t *testing.T) {
	if _, err := Of(of(2, 0, 1, and)); err != nil {
		t.Errorf("Of: got %v", err)
	}
	if _, err := Holds(of(2, 0, 1, and), [][]int{{1, -2}}, api.World{}); err != nil {
		t.Errorf("Holds: got %v", err)
	}
}

func TestOfByHand(t *testing.T) {
	for _, c := range []struct {
		code []int
		want [][]int
	}{
		{[]int{0}, [][]int{{1}}},
		{[]int{5}, [][]int{{6}}},
		{[]int{3, no}, [][]int{{-4}}},
		{[]int{3, no, no}, [][]int{{4}}},
		// Members go by atoms, each once.
		{[]int{2, 0, and}, [][]int{{1, 3}}},
		{[]int{2, no, 0, and}, [][]int{{1, -3}}},
		{[]int{5, 2, 4, no, 2, 0, no, and, and, and, and}, [][]int{{-1, 3, -5, 6}}},
		{[]int{1, 1, and}, [][]int{{2}}},
		// Cubes go as they come.
		{[]int{2, 0, or}, [][]int{{3}, {1}}},
		{[]int{1, 1, or}, [][]int{{2}}},
		{[]int{2, 0, or, 2, 1, or, or}, [][]int{{3}, {1}, {2}}},
		{[]int{0, 0, no, or}, [][]int{{1}, {-1}}},
		{[]int{2, 0, then}, [][]int{{-3}, {1}}},
		{[]int{2, 2, then}, [][]int{{-3}, {3}}},
		{[]int{2, 2, no, then}, [][]int{{-3}}},
		{[]int{0, 1, and, 2, then}, [][]int{{-1}, {-2}, {3}}},
		{[]int{0, 1, or, 2, then}, [][]int{{-1, -2}, {3}}},
		// A cube within another is one of its own.
		{[]int{0, 0, 1, and, or}, [][]int{{1}, {1, 2}}},
		// The second's go round fastest.
		{[]int{0, 1, or, 2, 3, or, and}, [][]int{{1, 3}, {1, 4}, {2, 3}, {2, 4}}},
		{[]int{0, 1, or, 1, 0, or, and}, [][]int{{1, 2}, {1}, {2}}},
		{[]int{0, 1, or, 0, no, 2, or, and}, [][]int{{1, 3}, {-1, 2}, {2, 3}}},
		// The members of a later cube go round fastest.
		{[]int{0, 1, and, 2, 3, and, or, no}, [][]int{{-1, -3}, {-1, -4}, {-2, -3}, {-2, -4}}},
		{[]int{2, 3, and, 0, no, 1, and, or, no}, [][]int{{1, -3}, {-2, -3}, {1, -4}, {-2, -4}}},
		{[]int{0, 1, and, 0, no, 2, and, or, no}, [][]int{{-1, -3}, {1, -2}, {-2, -3}}},
		{[]int{0, 1, or, 2, or, no}, [][]int{{-1, -2, -3}}},
		{[]int{2, 1, and, 0, and, no}, [][]int{{-1}, {-2}, {-3}}},
		// No of no cube is the empty one, and of what has that one, none.
		{[]int{0, 0, no, and}, nil},
		{[]int{0, 0, no, and, no}, [][]int{{}}},
		{[]int{0, 0, no, and, no, no}, nil},
		{[]int{0, 0, no, and, no, 1, or}, [][]int{{}, {2}}},
		{[]int{0, 0, no, and, no, 1, or, no}, nil},
		{[]int{1, 0, 0, no, and, no, or}, [][]int{{2}, {}}},
		{[]int{1, 0, 0, no, and, no, or, no}, nil},
		{[]int{1, 0, 0, no, and, no, and}, [][]int{{2}}},
		{[]int{0, 0, no, and, no, 1, 1, no, and, no, and}, [][]int{{}}},
		{[]int{0, 0, no, and, no, 1, 1, no, and, no, or}, [][]int{{}}},
		{[]int{0, 0, no, and, 1, and}, nil},
		{[]int{1, 0, 0, no, and, and}, nil},
		{[]int{0, 0, no, and, 1, or}, [][]int{{2}}},
		{[]int{0, 0, no, and, 1, then}, [][]int{{}, {2}}},
		{[]int{1, 0, 0, no, and, then}, [][]int{{-2}}},
		// No of both ways of an atom is none, too.
		{[]int{0, 0, no, or, no}, nil},
	} {
		askOf(t, of(6, c.code...), c.want, api.OK)
	}
}

// TestEveryCode: of up to seven signs, over two atoms, and of up to six, over three.
func TestEveryCode(t *testing.T) {
	for _, c := range []struct{ atoms, most int }{{1, 7}, {2, 7}, {3, 6}} {
		signs := append([]int{and, or, no, then}, []int{0, 1, 2}[:c.atoms]...)
		codes := 1
		for length := 1; length <= c.most; length++ {
			codes *= len(signs)
			for k := range codes {
				code := make([]int, length)
				for i := range code {
					code[i] = signs[k%len(signs)]
					k /= len(signs)
				}
				if isRight(code) {
					askCode(t, c.atoms, code, oneThing())
				}
			}
		}
	}
}

// chooser answers numbers from 0 to below n, one behind the other, always the same ones.
func chooser() func(n int) int {
	state := uint64(1)
	return func(n int) int {
		state = state*6364136223846793005 + 1442695040888963407
		return int(state >> 33 % uint64(n))
	}
}

// chosen is a right Code over six atoms, of as many signs as may be, or few less.
func chosen(choose func(n int) int) []int {
	two := func() int { return []int{and, or, then}[choose(3)] }
	last := choose(6)
	code, depth := []int{last}, 1
	// Each formula but one needs one more sign, that takes it.
	for len(code)+depth+1 <= maxCode-choose(4) {
		switch k := choose(7); {
		case k == 0:
			code = append(code, no)
		case k <= 3 && depth >= 2:
			code, depth = append(code, two()), depth-1
		default:
			// Where atoms come again late there are more cubes.
			last = (last + 1 + choose(2)) % 6
			code, depth = append(code, last), depth+1
		}
	}
	for range depth - 1 {
		code = append(code, two())
	}
	return code
}

// TestChosenCodes: greater ones, of six atoms, with and without too many cubes.
func TestChosenCodes(t *testing.T) {
	choose := chooser()
	worlds := []api.World{{}, {Things: 1, Has: [3]int{1, 0, 1}}, {Things: 3, Has: [3]int{1, 6, 4}}, {Things: 6, Has: [3]int{21, 63, 42}}}
	many := map[bool]int{}
	for range 30000 {
		code := chosen(choose)
		if len(code) > maxCode || !isRight(code) {
			t.Fatalf("chosen: got %v", code)
		}
		many[askCode(t, 6, code, worlds)]++
	}
	if many[true] < 300 || many[false] < 300 {
		t.Errorf("too few of a kind: %v", many)
	}
}

// TestThenIsOrOfNo: with the same cubes, or as full.
func TestThenIsOrOfNo(t *testing.T) {
	choose := chooser()
	for range 5000 {
		code := chosen(choose)
		i := slices.Index(code, then)
		if i < 0 || len(code) == maxCode {
			continue
		}
		// The second formula is what stands from its beginning to the Then.
		begin := i - 1
		for !isRight(code[begin:i]) {
			begin--
		}
		other := slices.Concat(code[:begin], []int{no}, code[begin:i], []int{or}, code[i+1:])
		want, err := Of(of(6, other...))
		askOf(t, of(6, code...), want, plain.Told(err))
	}
}

// TestFull: with 40 cubes it is not, behind any sign; with 41 it is.
func TestFull(t *testing.T) {
	for _, code := range [][]int{
		{5, 0, then, 4, and, 4, 2, or, 3, or, and, no, 1, 1, then, and},
		{4, 5, then, 2, or, 0, and, 3, then, 1, and, no, 4, or},
		{3, 4, 3, and, then, 0, and, 5, or, no, 2, and, no},
		{2, 3, 1, 5, then, 0, or, and, 4, then, and, 4, then},
	} {
		l, err := Of(of(6, code...))
		if len(l) != maxCubes || err != nil {
			t.Errorf("Of code %v: got %d cubes, %v, want 40", code, len(l), err)
		}
		askCode(t, 6, code, oneThing())
	}
	for _, code := range [][]int{
		{1, 4, and, 3, 2, 5, or, and, 0, or, and, no, 5, 5, then, and},
		{0, 5, or, 5, then, 4, and, no, 2, and, 3, and, no, 2, or},
		{2, 3, and, no, 5, 0, or, and, 4, then, 1, and, no},
		{4, 2, 1, or, 2, then, 5, and, no, and, 0, and, 0, then},
	} {
		askOf(t, of(6, code...), nil, api.ErrFull)
		// Whatever becomes of it behind that.
		askOf(t, of(6, append(code, no)...), nil, api.ErrFull)
		askOf(t, of(6, append(code, 0, or)...), nil, api.ErrFull)
		askOf(t, of(6, append(code, 0, 0, no, and, and)...), nil, api.ErrFull)
	}
}

// TestFullWithinNo: behind one of its cubes, also where there would be fewer behind a later one.
func TestFullWithinNo(t *testing.T) {
	full := []int{2, 3, and, no, 5, 0, or, and, 4, then, 1, and}
	empty := []int{0, 0, no, and, no}
	askOf(t, of(6, slices.Concat(full, []int{no})...), nil, api.ErrFull)
	askOf(t, of(6, slices.Concat(full, empty, []int{or, no})...), nil, api.ErrFull)
	// Behind the empty cube there is none any more.
	askOf(t, of(6, slices.Concat(empty, full, []int{or, no})...), nil, api.OK)
	askOf(t, of(6, slices.Concat(full, empty, []int{then})...), nil, api.ErrFull)
	want, err := Of(of(6, full...))
	if len(want) == 0 || err != nil {
		t.Errorf("Of code %v: got %v %v", full, want, err)
	}
	askOf(t, of(6, slices.Concat(empty, full, []int{then})...), want, api.OK)
}

func TestOfWrong(t *testing.T) {
	for _, c := range wrongForms {
		askOf(t, c.f, nil, c.wrong)
	}
}

func TestHoldsByHand(t *testing.T) {
	// Of the six atoms the first two hold, the third does not, the others do.
	w := api.World{Things: 4, Has: [3]int{0b0001, 0b0011, 0}}
	for _, c := range []struct {
		l    [][]int
		want bool
	}{
		{nil, false}, {[][]int{}, false}, {[][]int{nil}, true}, {[][]int{{}}, true},
		{[][]int{{1}}, true}, {[][]int{{-1}}, false}, {[][]int{{3}}, false}, {[][]int{{-3}}, true}, {[][]int{{6}}, true}, {[][]int{{-6}}, false},
		{[][]int{{1, 2}}, true}, {[][]int{{1, 3}}, false}, {[][]int{{3, 1}}, false}, {[][]int{{2, 1, -3}}, true}, {[][]int{{1, -2, -3}}, false},
		{[][]int{{3}, {1}}, true}, {[][]int{{1}, {3}}, true}, {[][]int{{3}, {-1}}, false}, {[][]int{{3}, {}}, true}, {[][]int{{}, {3}}, true},
		// What Of would not answer says what it says.
		{[][]int{{1, 1}}, true}, {[][]int{{1, -1}}, false}, {[][]int{{-3, 3}}, false}, {[][]int{{-1, 1}, {-3, -3, 2}}, true}, {[][]int{{3}, {3}, {3}}, false},
	} {
		askHolds(t, of(6, 0), c.l, w, c.want, api.OK)
		// The Code has no say in it.
		askHolds(t, of(6, 0, no), c.l, w, c.want, api.OK)
		askHolds(t, of(6, 3, 4, no, and), c.l, w, c.want, api.OK)
	}
}

// TestHoldsOfTwo: every list of two cubes with up to two members of three atoms each.
func TestHoldsOfTwo(t *testing.T) {
	cubes := [][]int{{}}
	for m := -3; m <= 3; m++ {
		for n := -3; n <= 3; n++ {
			if m != 0 && n != 0 {
				cubes = append(cubes, []int{m}, []int{m, n})
			}
		}
	}
	for _, w := range oneThing() {
		all := func(cube []int) bool {
			is := true
			for _, m := range cube {
				is = is && (w.Has[max(m, -m)-1] == 1) == (m > 0)
			}
			return is
		}
		for _, c := range cubes {
			askHolds(t, of(3, 0), [][]int{c}, w, all(c), api.OK)
			for _, d := range cubes {
				askHolds(t, of(3, 0), [][]int{c, d}, w, all(c) || all(d), api.OK)
			}
		}
	}
}

// TestHoldsOfMany: what is handed in may have more cubes and members than Of answers.
func TestHoldsOfMany(t *testing.T) {
	w := api.World{Things: 1, Has: [3]int{1, 0, 0}}
	for _, many := range []int{40, 41, 10000} {
		l := slices.Repeat([][]int{{-1}}, many)
		askHolds(t, of(2, 0), l, w, false, api.OK)
		askHolds(t, of(2, 0), append(l, []int{1}), w, true, api.OK)
		long := slices.Repeat([]int{1}, many)
		askHolds(t, of(2, 0), [][]int{long}, w, true, api.OK)
		askHolds(t, of(2, 0), [][]int{append(long, 2)}, w, false, api.OK)
		askHolds(t, of(2, 0), [][]int{append(long, 3)}, w, false, api.ErrRange)
	}
}

// TestMemberThatIsNone: wherever it stands, also where a cube ahead of it holds, or a member ahead of it does not.
func TestMemberThatIsNone(t *testing.T) {
	w := api.World{Things: 1, Has: [3]int{1, 0, 0}}
	for many := 1; many <= 6; many++ {
		f := of(many, 0)
		for _, m := range []int{math.MinInt, math.MinInt + 1, -1 << 32, -many - 2, -many - 1, 0, many + 1, many + 2, 10, 1 << 32, 1<<32 + 1, math.MaxInt} {
			for _, l := range [][][]int{{{m}}, {{1, m}}, {{m, 1}}, {{-1, m}}, {{1}, {m}}, {{}, {m}}, {{m}, {1}}, {{-1}, {-1}, {-1, 1, m}}} {
				askHolds(t, f, l, w, false, api.ErrRange)
				askHolds(t, f, l, api.World{Things: 7}, false, api.ErrRange)
			}
		}
		is, err := Holds(f, [][]int{{many}, {-many}}, w)
		if !is || err != nil {
			t.Errorf("Holds of the %d. atom both ways: got %t %v", many, is, err)
		}
	}
}

// TestWrongWorld: also where there is no cube, or no member, and of names that no atom has.
func TestWrongWorld(t *testing.T) {
	lists := [][][]int{nil, {}, {{}}, {{1}}, {{-1}}, {{1, -1}}, {{1}, {-1}}}
	for _, l := range lists {
		for _, u := range []int{math.MinInt, -1, 7, 8, 64, math.MaxInt} {
			askHolds(t, of(1, 0), l, api.World{Things: u}, false, api.ErrRange)
		}
		for u := range 7 {
			all := 1<<u - 1
			for name := range 3 {
				for _, s := range []int{math.MinInt, -1, all + 1, 64, math.MaxInt} {
					w := api.World{Things: u, Has: [3]int{all, all, all}}
					w.Has[name] = s
					askHolds(t, of(1, 0), l, w, false, api.ErrRange)
					askHolds(t, of(6, 5), l, w, false, api.ErrRange)
				}
			}
		}
	}
}

// TestHoldsWrong: what is wrong with the formula is told ahead of what is wrong with a member, or the world.
func TestHoldsWrong(t *testing.T) {
	for _, c := range wrongForms {
		for _, l := range [][][]int{nil, {{}}, {{1}}, {{0}}, {{7}}, {{math.MinInt}}} {
			for _, w := range []api.World{{}, {Things: 2, Has: [3]int{1, 2, 3}}, {Things: -1}, {Things: 2, Has: [3]int{0, 4, 0}}} {
				askHolds(t, c.f, l, w, false, c.wrong)
			}
		}
	}
}

// TestTooManyCubesHold: a formula that is too full for Of is right, and Holds asks its atoms alone.
func TestTooManyCubesHold(t *testing.T) {
	f := of(6, 2, 3, and, no, 5, 0, or, and, 4, then, 1, and, no)
	askOf(t, f, nil, api.ErrFull)
	askHolds(t, f, [][]int{{1}}, api.World{Things: 1, Has: [3]int{1, 0, 0}}, true, api.OK)
}

// fresh makes a formula and cubes whose lists have room behind their lengths, and all of that room.
func fresh() (f api.Form, l [][]int, room [][]int) {
	room = [][]int{{0, 1, 5, 77, 78}, {2, 8, 79}, {2, 70, 71}, {1, 0, and, no, 75, 76}, {2, -1, 80}, {1, 81}, {82, 83}}
	atoms := []api.Atom{{What: 1, S: room[0][:3], T: room[1][:2]}, {What: 4, S: room[2][:1], N: 2}, {What: 99}}
	return api.Form{Atoms: atoms[:2], Code: room[3][:4]}, [][]int{room[4][:2], room[5][:1], room[6][:0], {0}}[:3], room
}

// TestNothingIsWritten: into lists that are handed in, or behind them.
func TestNothingIsWritten(t *testing.T) {
	f, l, room := fresh()
	_, _, keep := fresh()
	got, err := Of(f)
	if !equal(got, [][]int{{-1}, {-2}}) || err != nil {
		t.Errorf("Of(%v): got %v %v", f, got, err)
	}
	askHolds(t, f, l, api.World{Things: 3, Has: [3]int{1, 2, 4}}, true, api.OK)
	askHolds(t, f, [][]int{room[4][:2], room[5][:2]}, api.World{Things: 3}, false, api.ErrRange)
	if !equal(room, keep) {
		t.Errorf("lists: got %v, want %v", room, keep)
	}
}

// TestAnswersShareNothing: neither with one another, nor within one, nor with what was handed in.
func TestAnswersShareNothing(t *testing.T) {
	for _, code := range [][]int{
		{0}, {0, no}, {0, 1, or}, {0, 0, no, or, 1, 1, no, or, and}, {0, 1, and, 2, 3, and, or, no},
		{0, 1, and, 2, then}, {0, 1, or, 0, 1, or, or}, {0, 0, no, and, no, 1, or}, {5, 4, or, 3, or, 2, or, 1, or, 0, or, 2, and},
	} {
		f := of(6, slices.Clone(code)...)
		l, _ := Of(f)
		keep, _ := Of(f)
		for i := range l {
			for k := range l[i][:cap(l[i])] {
				l[i][:cap(l[i])][k] = 99
			}
			for k := i + 1; k < len(l); k++ {
				if !slices.Equal(l[k], keep[k]) {
					t.Fatalf("Of(%v): cube %d is written with cube %d: %v", f, k, i, l)
				}
			}
		}
		if !slices.Equal(f.Code, code) {
			t.Errorf("Code: got %v, want %v", f.Code, code)
		}
		want, _, _ := model(code)
		if !equal(keep, listed(want)) {
			t.Errorf("Of(%v): the second answer became %v, want %v", f, keep, listed(want))
		}
		askOf(t, f, listed(want), api.OK)
	}
}
