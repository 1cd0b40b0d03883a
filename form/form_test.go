package form

import (
	"math"
	"slices"
	"testing"

	"vennhouse/api"
	"vennhouse/plain"
)

// The numbers as chapter 4 and package api write them, so that the names are held against them, too.
const (
	and  = 10
	or   = 11
	no   = 12
	then = 13

	maxAtoms = 6
	maxCode  = 20
)

// six right atoms, each unlike the others; the first three tell whether A, B and C have a thing.
var six = []api.Atom{
	{What: 3, S: []int{0}, N: 1},
	{What: 3, S: []int{1}, N: 1},
	{What: 3, S: []int{2}, N: 1},
	{What: 1, S: []int{0}, T: []int{1}},
	{What: 2, S: []int{1, 2, 6}, T: []int{2}},
	{What: 5, S: []int{2}, T: []int{0, 8}, N: -1},
}

// noAtoms are atoms that are none, and what chapter 3 says of them.
var noAtoms = []struct {
	a     api.Atom
	wrong api.Errno
}{
	{api.Atom{}, api.ErrRange},
	{api.Atom{What: 6, S: []int{0}}, api.ErrRange},
	{api.Atom{What: 3}, api.ErrNone},
	{api.Atom{What: 1, S: []int{0}}, api.ErrNone},
	{api.Atom{What: 4, S: slices.Repeat([]int{0}, 13)}, api.ErrFull},
	{api.Atom{What: 3, S: []int{0, 1}}, api.ErrShape},
	{api.Atom{What: 3, S: []int{0}, T: []int{1}}, api.ErrShape},
	{api.Atom{What: 1, S: []int{0}, T: []int{9}}, api.ErrRange},
	{api.Atom{What: 3, S: []int{0}, N: 21}, api.ErrRange},
}

// rightWorlds has one world for each choice of which of A, B and C have a thing.
func rightWorlds() (out []api.World) {
	for k := range 8 {
		out = append(out, api.World{Things: 1, Has: [3]int{k % 2, k / 2 % 2, k / 4}})
	}
	return out
}

// of has so many of the six atoms, and a Code.
func of(atoms int, code ...int) api.Form {
	return api.Form{Atoms: six[:atoms:atoms], Code: code}
}

// long is a right Code of so many signs: an atom, and No behind it.
func long(signs int) []int {
	return append([]int{0}, slices.Repeat([]int{no}, signs-1)...)
}

func equal(f, g api.Form) bool {
	sameAtom := func(a, b api.Atom) bool {
		return a.What == b.What && a.N == b.N && slices.Equal(a.S, b.S) && slices.Equal(a.T, b.T)
	}
	return slices.Equal(f.Code, g.Code) && slices.EqualFunc(f.Atoms, g.Atoms, sameAtom)
}

// read goes over a Code from its end: whether its last formula holds, and what stands ahead of that; not ok if there is none.
func read(code []int, held []bool) (is bool, ahead []int, ok bool) {
	if len(code) == 0 {
		return false, nil, false
	}
	last, ahead := code[len(code)-1], code[:len(code)-1]
	if last < and {
		return held[last], ahead, true
	}
	second, ahead, ok := read(ahead, held)
	if !ok || last == no {
		return !second, ahead, ok
	}
	first, ahead, ok := read(ahead, held)
	switch last {
	case and:
		return first && second, ahead, ok
	case or:
		return first || second, ahead, ok
	}
	return second || !first, ahead, ok
}

func askCheck(t *testing.T, f api.Form, want api.Errno) {
	t.Helper()
	if got := plain.Told(Check(f)); got != want {
		t.Errorf("Check(%v): got %v, want %v", f, got, want)
	}
}

func askHolds(t *testing.T, f api.Form, w api.World, want bool, wrong api.Errno) {
	t.Helper()
	got, err := Holds(f, w)
	if got != want || plain.Told(err) != wrong {
		t.Errorf("Holds(%v, %v): got %t %v, want %t %v", f, w, got, plain.Told(err), want, wrong)
	}
}

func askNegate(t *testing.T, f, want api.Form, wrong api.Errno) {
	t.Helper()
	got, err := Negate(f)
	if !equal(got, want) || plain.Told(err) != wrong {
		t.Errorf("Negate(%v): got %v %v, want %v %v", f, got, plain.Told(err), want, wrong)
	}
}

func askBoth(t *testing.T, f, g, want api.Form, wrong api.Errno) {
	t.Helper()
	got, err := Both(f, g)
	if !equal(got, want) || plain.Told(err) != wrong {
		t.Errorf("Both(%v, %v): got %v %v, want %v %v", f, g, got, plain.Told(err), want, wrong)
	}
}

// askWrong asks every call of a formula that is none; also beside a world, or another formula, that is none: what is wrong with this one is told first.
func askWrong(t *testing.T, f api.Form, wrong api.Errno) {
	t.Helper()
	askCheck(t, f, wrong)
	askHolds(t, f, api.World{Things: 3, Has: [3]int{1, 2, 4}}, false, wrong)
	askHolds(t, f, api.World{Things: -1}, false, wrong)
	askHolds(t, f, api.World{Things: 3, Has: [3]int{1, 2, 8}}, false, wrong)
	askNegate(t, f, api.Form{}, wrong)
	askBoth(t, f, of(1, 0), api.Form{}, wrong)
	askBoth(t, of(1, 0), f, api.Form{}, wrong)
	for _, g := range []api.Form{{}, of(1), of(1, long(21)...), of(1, 1), of(1, 0, 0), of(6, long(20)...)} {
		askBoth(t, f, g, api.Form{}, wrong)
	}
	// What is wrong with the second is told ahead of there being too much of both.
	askBoth(t, of(6, long(20)...), f, api.Form{}, wrong)
}

func TestNumbersOfTheChapter(t *testing.T) {
	got := [...]int{api.And, api.Or, api.No, api.Then, api.MaxAtoms, api.MaxCode}
	want := [...]int{and, or, no, then, maxAtoms, maxCode}
	if got != want {
		t.Errorf("numbers: got %v, want %v", got, want)
	}
}

func TestTakes(t *testing.T) {
	want := map[int]int{and: 2, or: 2, no: 1, then: 2}
	for _, sign := range []int{math.MinInt, -10, -1, 0, 1, 5, 6, 9, 10, 11, 12, 13, 14, 1<<32 + 10, math.MaxInt} {
		if got := Takes(sign); got != want[sign] {
			t.Errorf("Takes(%d): got %d, want %d", sign, got, want[sign])
		}
	}
}

// TestErrorIsNil: where nothing is wrong the error is nil, not an OK in an error.
func TestErrorIsNil(t *testing.T) {
	f := of(2, 0, 1, and)
	if err := Check(f); err != nil {
		t.Errorf("Check: got %v", err)
	}
	if _, err := Holds(f, api.World{}); err != nil {
		t.Errorf("Holds: got %v", err)
	}
	if _, err := Negate(f); err != nil {
		t.Errorf("Negate: got %v", err)
	}
	if _, err := Both(f, f); err != nil {
		t.Errorf("Both: got %v", err)
	}
}

// TestEveryCode: of up to six signs, over two atoms, in worlds where both, one or none of these hold.
func TestEveryCode(t *testing.T) {
	signs := []int{0, 1, and, or, no, then}
	codes := 1
	for length := range 7 {
		for k := range codes {
			code := make([]int, length)
			for i := range code {
				code[i] = signs[k%len(signs)]
				k /= len(signs)
			}
			askCode(t, code)
		}
		codes *= len(signs)
	}
}

func askCode(t *testing.T, code []int) {
	t.Helper()
	f := of(2, code...)
	_, ahead, ok := read(code, []bool{false, false})
	switch {
	case len(code) == 0:
		askWrong(t, f, api.ErrNone)
		return
	case !ok || len(ahead) > 0:
		askWrong(t, f, api.ErrShape)
		return
	}
	askCheck(t, f, api.OK)
	for k := range 4 {
		w := api.World{Things: 1, Has: [3]int{k % 2, k / 2}}
		want, _, _ := read(code, []bool{k%2 == 1, k/2 == 1})
		askHolds(t, f, w, want, api.OK)
		n, _ := Negate(f)
		askHolds(t, n, w, !want, api.OK)
	}
}

func TestHoldsByHand(t *testing.T) {
	w := api.World{Things: 4, Has: [3]int{0b0001, 0b0011, 0}}
	for _, c := range []struct {
		code []int
		want bool
	}{
		{[]int{0}, true}, {[]int{1}, true}, {[]int{2}, false}, {[]int{3}, true}, {[]int{4}, true}, {[]int{5}, true},
		{[]int{0, no}, false}, {[]int{2, no}, true}, {[]int{2, no, no}, false},
		{[]int{0, 1, and}, true}, {[]int{0, 2, and}, false}, {[]int{2, 0, and}, false}, {[]int{2, 2, and}, false},
		{[]int{0, 1, or}, true}, {[]int{0, 2, or}, true}, {[]int{2, 0, or}, true}, {[]int{2, 2, or}, false},
		{[]int{0, 1, then}, true}, {[]int{0, 2, then}, false}, {[]int{2, 0, then}, true}, {[]int{2, 2, then}, true},
		{[]int{0, 2, 1, then, and}, true}, {[]int{0, 2, then, 1, and}, false}, {[]int{2, 0, 2, then, then}, true}, {[]int{2, 0, then, 2, then}, false},
	} {
		askHolds(t, of(6, c.code...), w, c.want, api.OK)
	}
}

// TestEveryAtomHasItsNumber: among as many as may be, and the one behind the last is none.
func TestEveryAtomHasItsNumber(t *testing.T) {
	for many := 1; many <= maxAtoms; many++ {
		for i := range many {
			for _, w := range rightWorlds() {
				alone := api.Form{Atoms: six[i : i+1], Code: []int{0}}
				want, err := Holds(alone, w)
				if err != nil {
					t.Fatalf("Holds(%v, %v): got %v", alone, w, err)
				}
				askHolds(t, of(many, i), w, want, api.OK)
			}
		}
		askWrong(t, of(many, many), api.ErrRange)
		askWrong(t, of(many, 0, many, or), api.ErrRange)
	}
}

func TestSignThatIsNone(t *testing.T) {
	for _, sign := range []int{math.MinInt, math.MinInt + 12, -1 << 32, -13, -10, -1, 6, 7, 8, 9, 14, 15, 20, 266, 1 << 32, 1<<32 + 10, math.MaxInt} {
		askWrong(t, of(6, sign), api.ErrRange)
		askWrong(t, of(6, 0, sign), api.ErrRange)
		askWrong(t, of(6, 0, 1, sign), api.ErrRange)
		askWrong(t, of(6, sign, 1, and), api.ErrRange)
		// Ahead of that it is not one formula, wherever that is to be seen first.
		askWrong(t, of(6, and, sign), api.ErrRange)
		askWrong(t, of(6, 0, 0, 0, sign), api.ErrRange)
	}
}

func TestNoFormula(t *testing.T) {
	askWrong(t, api.Form{}, api.ErrNone)
	askWrong(t, api.Form{Atoms: []api.Atom{}, Code: []int{}}, api.ErrNone)
	// Ahead of there being too many, and of whatever else is wrong.
	for _, code := range [][]int{{0}, {-1}, {and}, long(20), long(21), slices.Repeat([]int{99}, 1000)} {
		askWrong(t, api.Form{Code: code}, api.ErrNone)
		askWrong(t, api.Form{Atoms: []api.Atom{}, Code: code}, api.ErrNone)
	}
	for many := 1; many <= 8; many++ {
		askWrong(t, api.Form{Atoms: slices.Repeat(six[:1], many)}, api.ErrNone)
		askWrong(t, api.Form{Atoms: make([]api.Atom, many), Code: []int{}}, api.ErrNone)
	}
}

func TestTooMuch(t *testing.T) {
	askCheck(t, of(6, long(20)...), api.OK)
	askHolds(t, of(6, long(20)...), api.World{Things: 1, Has: [3]int{1, 0, 0}}, false, api.OK)
	for _, many := range []int{7, 8, 100, 10000} {
		askWrong(t, api.Form{Atoms: slices.Repeat(six[:1], many), Code: []int{0}}, api.ErrFull)
		// Ahead of what is wrong with an atom, or a sign.
		askWrong(t, api.Form{Atoms: make([]api.Atom, many), Code: []int{-1, and}}, api.ErrFull)
	}
	for _, many := range []int{21, 22, 100, 10000} {
		askWrong(t, of(1, long(many)...), api.ErrFull)
		askWrong(t, api.Form{Atoms: make([]api.Atom, 1), Code: long(many)}, api.ErrFull)
		askWrong(t, of(1, slices.Repeat([]int{-1}, many)...), api.ErrFull)
	}
}

// TestAtomThatIsNone: at any place, also where no sign of the Code is its number; ahead of what is wrong with the Code.
func TestAtomThatIsNone(t *testing.T) {
	for _, c := range noAtoms {
		for many := 1; many <= maxAtoms; many++ {
			for i := range many {
				f := api.Form{Atoms: slices.Clone(six[:many]), Code: []int{0}}
				f.Atoms[i] = c.a
				askWrong(t, f, c.wrong)
				f.Code = []int{i, 99}
				askWrong(t, f, c.wrong)
				f.Code = []int{i, i}
				askWrong(t, f, c.wrong)
				f.Code = []int{and}
				askWrong(t, f, c.wrong)
			}
		}
	}
}

func TestFirstAtomThatIsNone(t *testing.T) {
	for _, first := range noAtoms {
		for _, second := range noAtoms {
			askWrong(t, api.Form{Atoms: []api.Atom{first.a, second.a}, Code: []int{1}}, first.wrong)
			askWrong(t, api.Form{Atoms: []api.Atom{six[5], first.a, second.a, six[0]}, Code: []int{0}}, first.wrong)
		}
	}
}

// TestWrongWorld: every name is to have a set, also one that no atom has.
func TestWrongWorld(t *testing.T) {
	forms := []api.Form{of(1, 0), of(1, 0, no), of(1, 0, 0, no, or), of(1, 0, 0, then), of(6, 0, 5, and)}
	for _, f := range forms {
		for _, u := range []int{math.MinInt, -1, 7, 8, 63, 64, 1 << 32, math.MaxInt} {
			askHolds(t, f, api.World{Things: u}, false, api.ErrRange)
		}
		for u := range 7 {
			all := 1<<u - 1
			for name := range 3 {
				for _, s := range []int{math.MinInt, -1, all + 1, 64, math.MaxInt} {
					w := api.World{Things: u, Has: [3]int{all, all, all}}
					w.Has[name] = s
					askHolds(t, f, w, false, api.ErrRange)
				}
			}
		}
	}
}

func TestNegate(t *testing.T) {
	askNegate(t, of(1, 0), of(1, 0, no), api.OK)
	askNegate(t, of(1, 0, no), of(1, 0, no, no), api.OK)
	askNegate(t, of(2, 0, 1, and), of(2, 0, 1, and, no), api.OK)
	askNegate(t, of(3, 2, 0, then, 1, or), of(3, 2, 0, then, 1, or, no), api.OK)
	// An atom that no sign is the number of is kept.
	askNegate(t, of(6, 3), of(6, 3, no), api.OK)
	for signs := 1; signs < maxCode; signs++ {
		askNegate(t, of(6, long(signs)...), of(6, long(signs+1)...), api.OK)
	}
	askNegate(t, of(1, long(20)...), api.Form{}, api.ErrFull)
	askNegate(t, of(6, long(20)...), api.Form{}, api.ErrFull)
}

func TestBothByHand(t *testing.T) {
	put := func(atoms []int, code ...int) api.Form {
		f := api.Form{Code: code}
		for _, i := range atoms {
			f.Atoms = append(f.Atoms, six[i])
		}
		return f
	}
	askBoth(t, of(1, 0), of(1, 0), put([]int{0, 0}, 0, 1, and), api.OK)
	askBoth(t, of(2, 1), of(3, 2), put([]int{0, 1, 0, 1, 2}, 1, 4, and), api.OK)
	askBoth(t, put([]int{5, 4, 3}, 2, 0, then), put([]int{2, 1}, 0, no, 1, or), put([]int{5, 4, 3, 2, 1}, 2, 0, then, 3, no, 4, or, and), api.OK)
	askBoth(t, put([]int{3}, 0, 0, and), put([]int{0, 1, 2, 4, 5}, 4, 3, then, 2, 1, 0, or, and, and), put([]int{3, 0, 1, 2, 4, 5}, 0, 0, and, 5, 4, then, 3, 2, 1, or, and, and, and), api.OK)
}

// TestBothIsFull: at the bounds, of atoms and of signs, and beyond them.
func TestBothIsFull(t *testing.T) {
	for i := 1; i <= maxAtoms; i++ {
		for j := 1; j <= maxAtoms; j++ {
			want, wrong := api.Form{}, api.ErrFull
			if i+j <= 6 {
				want, wrong = api.Form{Atoms: slices.Concat(six[:i], six[:j]), Code: []int{i - 1, i + j - 1, and}}, api.OK
			}
			askBoth(t, of(i, i-1), of(j, j-1), want, wrong)
		}
	}
	for i := 1; i <= maxCode; i++ {
		for j := 1; j <= maxCode; j++ {
			want, wrong := api.Form{}, api.ErrFull
			if i+j <= 19 {
				code := slices.Concat(long(i), long(j), []int{and})
				code[i] = 2
				want, wrong = api.Form{Atoms: slices.Concat(six[:2], six[:3]), Code: code}, api.OK
			}
			askBoth(t, of(2, long(i)...), of(3, long(j)...), want, wrong)
		}
	}
}

// TestBothHold: just where one and the other do.
func TestBothHold(t *testing.T) {
	forms := []api.Form{of(1, 0), of(2, 1), of(3, 2, no), of(3, 0, 1, then), of(3, 2, 1, or, 0, and), of(3, 0, 2, and, no)}
	for _, f := range forms {
		for _, g := range forms {
			b, err := Both(f, g)
			if err != nil {
				t.Fatalf("Both(%v, %v): got %v", f, g, err)
			}
			askCheck(t, b, api.OK)
			for _, w := range rightWorlds() {
				first, _ := Holds(f, w)
				second, _ := Holds(g, w)
				askHolds(t, b, w, first && second, api.OK)
			}
		}
	}
}

// fresh makes a formula whose lists have room behind their lengths, and what is to lie in all of it.
func fresh() (f api.Form, room [][]int, atoms []api.Atom) {
	room = [][]int{{0, 1, 5, 77, 78}, {2, 8, 79}, {2, 70, 71, 72}, {73, 74}, {0, 1, and, no, 75, 76}}
	atoms = []api.Atom{{What: 1, S: room[0][:3], T: room[1][:2]}, {What: 4, S: room[2][:1], T: room[3][:0], N: 2}, {What: 99}}
	return api.Form{Atoms: atoms[:2], Code: room[4][:4]}, room, atoms
}

// TestNothingIsWritten: into lists that are handed in, or what lies behind them, also when the same stands for both.
func TestNothingIsWritten(t *testing.T) {
	f, room, atoms := fresh()
	_, keepRoom, keepAtoms := fresh()
	Check(f)
	Holds(f, api.World{Things: 3, Has: [3]int{1, 2, 4}})
	Negate(f)
	Both(f, f)
	Both(f, of(1, 0))
	Both(of(1, 0), f)
	for i := range room {
		if !slices.Equal(room[i], keepRoom[i]) {
			t.Errorf("list %d: got %v, want %v", i, room[i], keepRoom[i])
		}
	}
	if !equal(api.Form{Atoms: atoms}, api.Form{Atoms: keepAtoms}) {
		t.Errorf("atoms: got %v, want %v", atoms, keepAtoms)
	}
}

// spoil writes over every list of a formula, one with another number than the next one, and over the room behind it.
func spoil(f api.Form) {
	for i := range f.Atoms {
		a := &f.Atoms[i]
		for k, list := range [][]int{a.S, a.T} {
			list = list[:cap(list)]
			for j := range list {
				list[j] = 100 + 2*i + k
			}
		}
		a.What, a.N = 100+i, 200+i
	}
	code := f.Code[:cap(f.Code)]
	for i := range code {
		code[i] = 99
	}
}

// TestAnswersAreFresh: what comes out shares no memory with what went in, nor one list of it with another.
func TestAnswersAreFresh(t *testing.T) {
	for _, makeOne := range []func(f api.Form) (api.Form, error){
		Negate,
		func(f api.Form) (api.Form, error) { return Both(f, f) },
		func(f api.Form) (api.Form, error) { return Both(f, of(1, 0)) },
		func(f api.Form) (api.Form, error) { return Both(of(1, 0), f) },
	} {
		f, room, _ := fresh()
		keep, keepRoom, _ := fresh()
		got, err := makeOne(f)
		if err != nil {
			t.Fatalf("got %v", err)
		}
		again, _ := makeOne(f)
		want, _ := makeOne(keep)
		spoil(got)
		if !equal(f, keep) || !slices.EqualFunc(room, keepRoom, slices.Equal) {
			t.Errorf("handed in: got %v %v, want %v %v", f, room, keep, keepRoom)
		}
		if !equal(again, want) {
			t.Errorf("another answer: got %v, want %v", again, want)
		}
		for i, a := range got.Atoms {
			for k, list := range [][]int{a.S, a.T} {
				for _, n := range list {
					if n != 100+2*i+k {
						t.Errorf("list %d of atom %d: got %v", k, i, list)
					}
				}
			}
		}
		spoil(f)
		if !equal(again, want) {
			t.Errorf("kept: got %v, want %v", again, want)
		}
	}
	if !slices.Equal(six[0].S, []int{0}) {
		t.Errorf("the atom beside it: got %v", six[0])
	}
}
