package alike

import (
	"math"
	"slices"
	"testing"

	"vennhouse/api"
	"vennhouse/atom"
	"vennhouse/plain"
	"vennhouse/term"
)

// The numbers as chapters 1 and 2 write them, so that the names in api are held against them, too.
const (
	names     = 3
	signs     = 9
	maxThings = 6
	maxTerm   = 12
)

// far are numbers that are neither a sign nor a name.
var far = []int{
	math.MinInt, math.MinInt + 1, -1 << 32, -256, -3, -2, -1,
	9, 10, 11, 12, 13, 64, 255, 256, 1 << 32, 1<<32 + 1, math.MaxInt - 1, math.MaxInt,
}

// noNames are numbers that are no name, signs that are none among them.
var noNames = append([]int{3, 4, 5, 6, 7, 8}, far...)

// row of signs of a text.
func row(t *testing.T, text string) []int {
	t.Helper()
	out, err := term.Parse(text)
	if err != nil {
		t.Fatalf("Parse(%q): got %v", text, err)
	}
	return out
}

// every world of u things.
func every(u int) (out []api.World) {
	for a := range 1 << u {
		for b := range 1 << u {
			for c := range 1 << u {
				out = append(out, api.World{Things: u, Has: [names]int{a, b, c}})
			}
		}
	}
	return out
}

// small is every world of up to two things.
func small() []api.World {
	return slices.Concat(every(0), every(1), every(2))
}

// values of a term, world by world.
func values(t *testing.T, s []int, list []api.World) (out []int) {
	t.Helper()
	for _, w := range list {
		v, err := term.Value(s, w)
		if err != nil {
			t.Fatalf("Value(%v, %v): got %v", s, w, err)
		}
		out = append(out, v)
	}
	return out
}

// answers to whether two terms are the same, one is part of the other, and they are apart.
type answers struct{ same, part, apart bool }

// inEach tells what is so of values in each world.
func inEach(s, t []int) answers {
	out := answers{true, true, true}
	for i := range s {
		out.same = out.same && s[i] == t[i]
		out.part = out.part && s[i]|t[i] == t[i]
		out.apart = out.apart && s[i]&t[i] == 0
	}
	return out
}

// terms that are right, of just so many signs, all of them.
func terms(length int) (out [][]int) {
	many := 1
	for range length {
		many *= signs
	}
	for k := range many {
		t := make([]int, length)
		for i := range t {
			t[i], k = k%signs, k/signs
		}
		if term.Check(t) == nil {
			out = append(out, t)
		}
	}
	return out
}

// chooser answers numbers from 0 to below n, one behind the other, always the same ones.
func chooser() func(n int) int {
	state := uint64(1)
	return func(n int) int {
		state = state*6364136223846793005 + 1442695040888963407
		return int(state >> 33 % uint64(n))
	}
}

// chosen is a right term of up to twelve signs.
func chosen(choose func(n int) int) []int {
	t, depth, most := []int{choose(5)}, 1, 1+choose(maxTerm)
	// Each term but one needs one more sign, that takes it.
	for len(t)+depth+1 <= most {
		switch k := choose(6); {
		case k == 0:
			t = append(t, 8)
		case k <= 2 && depth >= 2:
			t, depth = append(t, 5+choose(3)), depth-1
		default:
			t, depth = append(t, choose(5)), depth+1
		}
	}
	for range depth - 1 {
		t = append(t, 5+choose(3))
	}
	return t
}

// ask all three of two terms.
func ask(t *testing.T, first, second []int, want answers, wrong api.Errno) {
	t.Helper()
	same, err := Same(first, second)
	if same != want.same || plain.Told(err) != wrong {
		t.Errorf("Same(%v, %v): got %v %v, want %v %v", first, second, same, plain.Told(err), want.same, wrong)
	}
	part, err := Part(first, second)
	if part != want.part || plain.Told(err) != wrong {
		t.Errorf("Part(%v, %v): got %v %v, want %v %v", first, second, part, plain.Told(err), want.part, wrong)
	}
	apart, err := Apart(first, second)
	if apart != want.apart || plain.Told(err) != wrong {
		t.Errorf("Apart(%v, %v): got %v %v, want %v %v", first, second, apart, plain.Told(err), want.apart, wrong)
	}
}

func askSwap(t *testing.T, s []int, x, y int, want []int, wrong api.Errno) {
	t.Helper()
	got, err := Swap(s, x, y)
	if !slices.Equal(got, want) || plain.Told(err) != wrong {
		t.Errorf("Swap(%v, %d, %d): got %v %v, want %v %v", s, x, y, got, plain.Told(err), want, wrong)
	}
}

func TestNumbersOfTheChapter(t *testing.T) {
	got := [...]int{api.A, api.B, api.C, api.Not, api.Names, api.MaxTerm, api.MaxThings}
	want := [...]int{0, 1, 2, signs - 1, names, maxTerm, maxThings}
	if got != want {
		t.Errorf("numbers: got %v, want %v", got, want)
	}
}

// TestErrorIsNil: where nothing is wrong the error is nil, not an OK in an error.
func TestErrorIsNil(t *testing.T) {
	for _, s := range [][]int{{0}, {1}, {3}} {
		if _, err := Same([]int{0}, s); err != nil {
			t.Errorf("Same: got %v", err)
		}
		if _, err := Part([]int{0}, s); err != nil {
			t.Errorf("Part: got %v", err)
		}
		if _, err := Apart([]int{0}, s); err != nil {
			t.Errorf("Apart: got %v", err)
		}
		if _, err := Swap(s, 0, 1); err != nil {
			t.Errorf("Swap: got %v", err)
		}
	}
}

func TestByHand(t *testing.T) {
	same, part, apart, neither := answers{same: true, part: true}, answers{part: true}, answers{apart: true}, answers{}
	for _, c := range []struct {
		first, second string
		want          answers
	}{
		{"A", "A", same},
		{"A", "B", neither},
		{"B", "C", neither},
		{"A", "A~", apart},
		{"A~", "A", apart},
		{"A~~", "A", same},
		{"A", "1", part},
		{"1", "A", neither},
		{"1", "1", same},
		{"1", "0~", same},
		{"A", "0", apart},
		{"1", "0", apart},
		// The empty set is part of each, and has nothing in common with any, itself included.
		{"0", "A", answers{part: true, apart: true}},
		{"0", "1", answers{part: true, apart: true}},
		{"0", "0", answers{true, true, true}},
		{"AA~*", "BB-", answers{true, true, true}},
		{"AB*", "A", part},
		{"A", "AB*", neither},
		{"A", "AB+", part},
		{"AB+", "A", neither},
		{"AB-", "A", part},
		{"AB-", "B", apart},
		{"AB-", "BA-", apart},
		{"AB-", "AB*", apart},
		{"AB+", "BA+", same},
		{"AB*", "BA*", same},
		{"AB-", "AB~*", same},
		{"AB+~", "A~B~*", same},
		{"AB*~", "A~B~+", same},
		{"AB+~", "A~B~+", part},
		{"AB+C*", "AC*BC*+", same},
		{"AB*C+", "AC+BC+*", same},
		{"AB-C-", "ABC+-", same},
		{"ABC--", "AB-C-", neither},
		{"AB-C-", "ABC--", part},
		{"AB-BA-+", "AB+AB*-", same},
		{"AA~+", "BB~+", same},
		{"AB*", "BC*", neither},
		{"AB*C-", "BC*A-", apart},
		{"ABC++", "AB+C+", same},
		// They differ in one of the fields alone: in the first one, the last one, one between.
		{"AB+C+", "1", part},
		{"AB*C*~", "1", part},
		{"1AB-C--", "1", part},
		{"AB*C*", "0", apart},
		{"1AB+C+-", "AB+C+", apart},
	} {
		ask(t, row(t, c.first), row(t, c.second), c.want, api.OK)
	}
}

// TestAllShortTerms: each of up to three signs with each, against every world of up to two things.
func TestAllShortTerms(t *testing.T) {
	list := slices.Concat(terms(1), terms(2), terms(3))
	worlds := small()
	var known [][]int
	for _, s := range list {
		known = append(known, values(t, s, worlds))
	}
	for i, first := range list {
		for j, second := range list {
			ask(t, first, second, inEach(known[i], known[j]), api.OK)
		}
	}
}

// TestChosen: longer terms, against every world of up to two things.
func TestChosen(t *testing.T) {
	choose, worlds := chooser(), small()
	met := map[answers]int{}
	for range 4000 {
		first, second := chosen(choose), chosen(choose)
		want := inEach(values(t, first, worlds), values(t, second, worlds))
		ask(t, first, second, want, api.OK)
		met[want]++
	}
	// What is the same is part, so that six of eight can be.
	if len(met) != 6 {
		t.Errorf("answers that were met: got %v", met)
	}
}

// TestMoreThings: what is so stays so in every world of three things, and in worlds of six; so do atoms that say it.
func TestMoreThings(t *testing.T) {
	choose, worlds := chooser(), every(3)
	for range 200 {
		worlds = append(worlds, api.World{Things: maxThings, Has: [names]int{choose(64), choose(64), choose(64)}})
	}
	for range 300 {
		first, second := chosen(choose), chosen(choose)
		ask(t, first, second, inEach(values(t, first, worlds), values(t, second, worlds)), api.OK)
		same, part := true, true
		for _, w := range worlds {
			same = same && says(t, api.Atom{What: api.Same, S: first, T: second}, w)
			part = part && says(t, api.Atom{What: api.Sub, S: first, T: second}, w)
		}
		if got, err := Same(first, second); got != same || err != nil {
			t.Errorf("Same(%v, %v): got %v %v, want %v", first, second, got, err, same)
		}
		if got, err := Part(first, second); got != part || err != nil {
			t.Errorf("Part(%v, %v): got %v %v, want %v", first, second, got, err, part)
		}
	}
}

// says tells whether an atom holds.
func says(t *testing.T, a api.Atom, w api.World) bool {
	t.Helper()
	is, err := atom.Holds(a, w)
	if err != nil {
		t.Fatalf("Holds(%v, %v): got %v", a, w, err)
	}
	return is
}

// wrongTerms are rows of signs that are no term, and what is wrong with them.
func wrongTerms() map[api.Errno][][]int {
	nots := append([]int{0}, slices.Repeat([]int{8}, maxTerm)...)
	out := map[api.Errno][][]int{
		api.ErrNone:  {nil, {}},
		api.ErrFull:  {nots, make([]int, 1<<10), slices.Repeat([]int{9}, maxTerm+1)},
		api.ErrShape: {{5}, {8}, {0, 1}, {0, 5}, {0, 1, 5, 5}, {8, 0}, {0, 5, 1}, slices.Repeat([]int{2}, maxTerm)},
	}
	for _, sign := range far {
		// The shape is wrong, too, but told behind it.
		out[api.ErrRange] = append(out[api.ErrRange], []int{sign}, []int{0, sign}, []int{5, sign})
	}
	return out
}

// TestWrongTerms: also both at once, and then the first one's is told.
func TestWrongTerms(t *testing.T) {
	for wrong, list := range wrongTerms() {
		for _, bad := range list {
			for _, right := range [][]int{{0}, {3}, {4}, {0, 1, 5}} {
				ask(t, bad, right, answers{}, wrong)
				ask(t, right, bad, answers{}, wrong)
			}
			for _, others := range wrongTerms() {
				ask(t, bad, others[0], answers{}, wrong)
			}
		}
	}
}

// TestLength: twelve signs are not too many.
func TestLength(t *testing.T) {
	nots := append([]int{1}, slices.Repeat([]int{8}, maxTerm-1)...)
	ask(t, nots, []int{1, 8}, answers{same: true, part: true}, api.OK)
	ask(t, []int{1}, nots, answers{apart: true}, api.OK)
	want := slices.Clone(nots)
	want[0] = 2
	askSwap(t, nots, 1, 2, want, api.OK)
}

func TestSwapByHand(t *testing.T) {
	for _, c := range []struct {
		text string
		x, y int
		want string
	}{
		{"A", 0, 1, "B"},
		{"A", 1, 0, "B"},
		{"B", 0, 1, "A"},
		{"C", 0, 1, "C"},
		{"C", 2, 0, "A"},
		{"A", 0, 0, "A"},
		{"A", 1, 1, "A"},
		{"0", 0, 1, "0"},
		{"1", 1, 2, "1"},
		{"AB-", 0, 1, "BA-"},
		{"AB-", 1, 2, "AC-"},
		{"AB-", 0, 2, "CB-"},
		{"AB-C-", 0, 2, "CB-A-"},
		{"AB-C-", 2, 2, "AB-C-"},
		{"AAB+-", 1, 0, "BBA+-"},
		{"AB+BC+*CA+*~", 0, 1, "BA+AC+*CB+*~"},
		{"01-01-01-+*~", 0, 1, "01-01-01-+*~"},
	} {
		askSwap(t, row(t, c.text), c.x, c.y, row(t, c.want), api.OK)
	}
}

// TestSwapIsSwapped: a term has with swapped names what it had where these have each other's things; swapped again it is as it was.
func TestSwapIsSwapped(t *testing.T) {
	choose, worlds := chooser(), every(2)
	for range 300 {
		s := chosen(choose)
		for x := range names {
			for y := range names {
				got, err := Swap(s, x, y)
				if err != nil {
					t.Fatalf("Swap(%v, %d, %d): got %v", s, x, y, err)
				}
				askSwap(t, s, y, x, got, api.OK)
				askSwap(t, got, x, y, s, api.OK)
				var other []api.World
				for _, w := range worlds {
					w.Has[x], w.Has[y] = w.Has[y], w.Has[x]
					other = append(other, w)
				}
				if !slices.Equal(values(t, got, other), values(t, s, worlds)) {
					t.Errorf("Swap(%v, %d, %d): got %v, which is another one", s, x, y, got)
				}
			}
		}
	}
}

// TestSwapKeeps: no name is special, so that two terms with swapped names are to each other as they were.
func TestSwapKeeps(t *testing.T) {
	choose := chooser()
	for range 2000 {
		first, second, x, y := chosen(choose), chosen(choose), choose(names), choose(names)
		same, _ := Same(first, second)
		part, _ := Part(first, second)
		apart, _ := Apart(first, second)
		s, err := Swap(first, x, y)
		u, bad := Swap(second, x, y)
		if err != nil || bad != nil {
			t.Fatalf("Swap(%v and %v, %d, %d): got %v %v", first, second, x, y, err, bad)
		}
		ask(t, s, u, answers{same, part, apart}, api.OK)
	}
}

// TestSwapWrong: a wrong term is told ahead of a wrong name, and a wrong name also where the term has no name.
func TestSwapWrong(t *testing.T) {
	for wrong, list := range wrongTerms() {
		for _, bad := range list {
			askSwap(t, bad, 0, 1, nil, wrong)
			askSwap(t, bad, -1, 1, nil, wrong)
			askSwap(t, bad, 0, 3, nil, wrong)
		}
	}
	for _, bad := range noNames {
		for _, s := range [][]int{{0}, {1}, {2}, {3}, {4}, {0, 1, 5}, {3, 4, 7, 8}} {
			for x := range names {
				askSwap(t, s, x, bad, nil, api.ErrRange)
				askSwap(t, s, bad, x, nil, api.ErrRange)
			}
			askSwap(t, s, bad, bad, nil, api.ErrRange)
		}
	}
}

// TestNothingIsWritten: into a list that is handed in, or what lies behind it; and that is not read.
func TestNothingIsWritten(t *testing.T) {
	whole := []int{0, 1, 5, 8, 99, -5, 7}
	keep := slices.Clone(whole)
	for n := range len(whole) + 1 {
		s := whole[:n]
		Same(s, s)
		Part(s, []int{0})
		Apart([]int{0}, s)
		Swap(s, 0, 1)
		Swap(s, 0, 3)
		if !slices.Equal(whole, keep) {
			t.Fatalf("%d signs: got %v, want %v", n, whole, keep)
		}
	}
	ask(t, whole[:3], whole[:4], answers{apart: true}, api.OK)
	askSwap(t, whole[:4], 0, 1, []int{1, 0, 5, 8}, api.OK)
}

// TestSwapIsFresh: what was answered shares nothing with what was handed in, nor with another answer, also where nothing is swapped.
func TestSwapIsFresh(t *testing.T) {
	for y := range names {
		s := []int{0, 1, 5}
		one, _ := Swap(s, 0, y)
		two, _ := Swap(s, 0, y)
		keep := slices.Clone(two)
		for i := range one {
			one[i] = 8
		}
		if !slices.Equal(s, []int{0, 1, 5}) || !slices.Equal(two, keep) {
			t.Errorf("Swap with %d: got %v and %v", y, s, two)
		}
		s[0], s[1] = 4, 4
		if !slices.Equal(two, keep) {
			t.Errorf("Swap with %d: got %v, want %v", y, two, keep)
		}
	}
}

// TestSameAgain: what is answered does not hang on calls before, nor on that one of them was wrong.
func TestSameAgain(t *testing.T) {
	for range 3 {
		ask(t, []int{0, 1, 6}, []int{0}, answers{part: true}, api.OK)
		ask(t, nil, []int{0}, answers{}, api.ErrNone)
		ask(t, []int{0}, []int{9}, answers{}, api.ErrRange)
		askSwap(t, []int{0, 1, 7}, 0, 1, []int{1, 0, 7}, api.OK)
		askSwap(t, []int{0, 1, 7}, 0, 3, nil, api.ErrRange)
		askSwap(t, nil, 0, 1, nil, api.ErrNone)
	}
}
