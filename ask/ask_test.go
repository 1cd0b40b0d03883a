package ask

import (
	"math"
	"reflect"
	"slices"
	"testing"

	"vennhouse/api"
	"vennhouse/atom"
	"vennhouse/core"
	"vennhouse/cubes"
	"vennhouse/form"
	"vennhouse/plain"
)

// The numbers as chapters 1, 4 and 13 and package api write them, so that the names are held against them, too.
const (
	and  = 10
	or   = 11
	no   = 12
	then = 13

	maxThings = 6
	maxForms  = 6
	maxAtoms  = 6
	maxCode   = 20
)

// wrongThings are numbers of things that are none.
var wrongThings = []int{
	-1, -2, -6, 7, 8, 9, 62, 63, 64, 1 << 31, 1 << 32, 1 << 62, -1 << 32,
	math.MinInt, math.MinInt + 1, math.MinInt + 6, math.MaxInt - 1, math.MaxInt,
}

// of has atoms, as texts, and a Code.
func of(t *testing.T, texts []string, code ...int) api.Form {
	t.Helper()
	f := api.Form{Code: code}
	for _, text := range texts {
		a, err := atom.Parse(text)
		if err != nil {
			t.Fatalf("Parse(%q): got %v", text, err)
		}
		f.Atoms = append(f.Atoms, a)
	}
	return f
}

// ones are formulas of one atom each.
func ones(t *testing.T, texts ...string) (l []api.Form) {
	t.Helper()
	for _, text := range texts {
		l = append(l, of(t, []string{text}, 0))
	}
	return l
}

func askOf(t *testing.T, l []api.Form, f api.Form, u int, want int, wrong api.Errno) {
	t.Helper()
	got, err := Of(l, f, u)
	if got != want || plain.Told(err) != wrong {
		t.Errorf("Of(%v, %v, %d): got %d %v, want %d %v", l, f, u, got, plain.Told(err), want, wrong)
	}
}

func askAlways(t *testing.T, l []api.Form, f api.Form, want int, wrong api.Errno) {
	t.Helper()
	got, err := Always(l, f)
	if got != want || plain.Told(err) != wrong {
		t.Errorf("Always(%v, %v): got %d %v, want %d %v", l, f, got, plain.Told(err), want, wrong)
	}
}

// askWrong asks for an error of both.
func askWrong(t *testing.T, l []api.Form, f api.Form, u int, wrong api.Errno) {
	t.Helper()
	askOf(t, l, f, u, 0, wrong)
	askAlways(t, l, f, 0, wrong)
}

func TestNumbersOfTheChapter(t *testing.T) {
	got := [...]int{api.And, api.Or, api.No, api.Then, api.MaxThings, api.MaxForms, api.MaxAtoms, api.MaxCode}
	want := [...]int{and, or, no, then, maxThings, maxForms, maxAtoms, maxCode}
	if got != want {
		t.Errorf("numbers: got %v, want %v", got, want)
	}
	if api.ErrState != 6 {
		t.Errorf("ErrState: got %d", int(api.ErrState))
	}
}

// TestErrorIsNil: where nothing is wrong the error is nil, not an OK in an error.
func TestErrorIsNil(t *testing.T) {
	for _, text := range []string{"least A 1", "most A 0", "least B 1"} {
		l, f := ones(t, "least A 1"), ones(t, text)[0]
		if _, err := Of(l, f, 2); err != nil {
			t.Errorf("Of %q: got %v", text, err)
		}
		if _, err := Always(l, f); err != nil {
			t.Errorf("Always %q: got %v", text, err)
		}
	}
}

// answers are what is asked for of 0 to 6 things, one sign each: 1 and - where it follows, or its negation, 0 neither, x not open.
type answers string

// askSign asks of so many things for the answer of a sign.
func askSign(t *testing.T, l []api.Form, f api.Form, u int, sign byte) {
	t.Helper()
	switch sign {
	case '1':
		askOf(t, l, f, u, 1, api.OK)
	case '-':
		askOf(t, l, f, u, -1, api.OK)
	case '0':
		askOf(t, l, f, u, 0, api.OK)
	case 'x':
		askOf(t, l, f, u, 0, api.ErrState)
	default:
		t.Fatalf("%q: no sign of an answer", sign)
	}
}

// askEach asks of each number of things, and then of all of them.
func askEach(t *testing.T, l []api.Form, f api.Form, want answers) {
	t.Helper()
	if len(want) != maxThings+1 {
		t.Fatalf("%q is not one sign for each number of things", want)
	}
	for u, sign := range []byte(want) {
		askSign(t, l, f, u, sign)
	}
	all, wrong := want.always()
	askAlways(t, l, f, all, wrong)
}

// always is the one answer of all that are open, if there is one.
func (a answers) always() (int, api.Errno) {
	open := slices.DeleteFunc([]byte(a), func(sign byte) bool { return sign == 'x' })
	switch {
	case len(open) == 0:
		return 0, api.ErrState
	case len(slices.Compact(open)) > 1:
		return 0, api.OK
	case open[0] == '1':
		return 1, api.OK
	case open[0] == '-':
		return -1, api.OK
	}
	return 0, api.OK
}

func TestByHand(t *testing.T) {
	for _, c := range []struct {
		said  []string
		asked string
		want  answers
	}{
		// Whatever the world.
		{[]string{"sub A A"}, "sub B B", "1111111"},
		{[]string{"sub A A"}, "least A 7", "-------"},
		{[]string{"sub A A"}, "most 0 -1", "-------"},
		{[]string{"sub A A"}, "least A 1", "-000000"},
		{[]string{"sub A A"}, "sub A B", "1000000"},
		{[]string{"sub A A"}, "same A A~", "1------"},
		// What was said, and what was not.
		{[]string{"sub A B"}, "sub A B", "1111111"},
		{[]string{"sub A B"}, "sub B A", "1000000"},
		{[]string{"sub A B"}, "nomore A B 0", "1111111"},
		{[]string{"nomore A B 0"}, "sub A B", "1100000"},
		{[]string{"nomore A B 0"}, "nomore B A -1", "-------"},
		{[]string{"sub A B", "sub B C"}, "sub A C", "1111111"},
		{[]string{"sub A B", "sub B C"}, "least AC- 1", "-------"},
		{[]string{"sub A B", "sub B C"}, "sub C A", "1000000"},
		{[]string{"sub A B", "sub B C", "sub C A"}, "same A C", "1111111"},
		{[]string{"same A B~"}, "same AB* 0", "1111111"},
		{[]string{"same A B~"}, "same AB+ 1", "1111111"},
		{[]string{"same A B~"}, "same A B", "1------"},
		{[]string{"same A B", "same B C", "sub A C"}, "same A C", "1111111"},
		// Of few things it follows, of more it does not.
		{[]string{"least A 2", "least B 2"}, "least AB* 1", "xx11000"},
		{[]string{"least A 2", "least B 2"}, "same AB* 0", "xx--000"},
		{[]string{"least A 3", "least B 3"}, "least AB* 1", "xxx1110"},
		{[]string{"least A 3", "least B 4"}, "least AB* 1", "xxxx111"},
		{[]string{"least A 3", "least B 4"}, "same AB* 0", "xxxx---"},
		{[]string{"most A 2"}, "most A 1", "1100000"},
		{[]string{"most A 5"}, "most B 5", "1111110"},
		{[]string{"least A 1"}, "least B 1", "x000000"},
		// Now it follows, now its negation.
		{[]string{"sub A A"}, "least 1 1", "-111111"},
		{[]string{"sub A A"}, "least 1 3", "---1111"},
		{[]string{"sub A A"}, "least 1 6", "------1"},
		{[]string{"sub A A"}, "most 1 0", "1------"},
		{[]string{"sub A A"}, "most 1 5", "111111-"},
		{[]string{"least A 1"}, "most 1 1", "x1-----"},
		{[]string{"same A B~"}, "nomore A B 5", "1111110"},
		// Only of some things they are open; of those alone it is asked.
		{[]string{"least 1 6"}, "least 1 4", "xxxxxx1"},
		{[]string{"least A 6"}, "same A 1", "xxxxxx1"},
		{[]string{"least A 6"}, "least B 1", "xxxxxx0"},
		{[]string{"least A 6"}, "least A~ 1", "xxxxxx-"},
		{[]string{"most 1 0"}, "same A B", "1xxxxxx"},
		{[]string{"most 1 0"}, "least A 1", "-xxxxxx"},
		{[]string{"least A 3", "most 1 3"}, "same A 1", "xxx1xxx"},
		{[]string{"least A 3", "most 1 3"}, "least A~ 1", "xxx-xxx"},
		{[]string{"least A 3", "most 1 3"}, "sub B C", "xxx0xxx"},
		{[]string{"least A 2", "most 1 3"}, "same A 1", "xx10xxx"},
		{[]string{"least A 2", "least B 2", "same AB* 0"}, "least 1 4", "xxxx111"},
		{[]string{"least A 2", "least B 2", "same AB* 0"}, "sub C AB+", "xxxx100"},
		{[]string{"least A 2", "least B 2", "least C 2", "same AB* 0", "same AC* 0", "same BC* 0"}, "most A 2", "xxxxxx1"},
		{[]string{"least A 2", "least B 2", "least C 2", "same AB* 0", "same AC* 0", "same BC* 0"}, "least AB+C+~ 1", "xxxxxx-"},
		{[]string{"least A 2", "least B 2", "same AB* 0", "least C 1", "sub C AB+~", "most C 5"}, "most C 1", "xxxxx10"},
		// Of none they are open: not even what was said follows, nor what always holds.
		{[]string{"least A 7"}, "least A 7", "xxxxxxx"},
		{[]string{"least A 7"}, "sub A A", "xxxxxxx"},
		{[]string{"least A 1", "most A 0"}, "least A 1", "xxxxxxx"},
		{[]string{"least A 1", "least B 1", "most A 0"}, "least 0 1", "xxxxxxx"},
		{[]string{"nomore A B -1", "nomore B C -1", "nomore C A 1"}, "sub A B", "xxxxxxx"},
		{[]string{"nomore A B -1", "nomore B C -1", "nomore C A 2"}, "least C 2", "xx11111"},
		{[]string{"same A B", "same B C~", "same A C"}, "most 1 0", "1xxxxxx"},
	} {
		askEach(t, ones(t, c.said...), ones(t, c.asked)[0], c.want)
	}
}

// TestPutTogether: formulas of several atoms, by hand.
func TestPutTogether(t *testing.T) {
	parts := []string{"sub A B", "sub B A", "least A 2"}
	has := func(code ...int) api.Form { return of(t, parts, code...) }
	ab, ba, two := has(0), has(1), has(2)
	first, both, neither := has(0, 1, or), has(0, 1, and), has(0, no, 1, no, and)
	for _, c := range []struct {
		said  []api.Form
		asked api.Form
		want  answers
	}{
		{[]api.Form{first}, both, "1000000"},
		{[]api.Form{both}, first, "1111111"},
		{[]api.Form{both}, neither, "-------"},
		{[]api.Form{neither}, first, "xx-----"},
		{[]api.Form{neither}, both, "xx-----"},
		{[]api.Form{neither}, two, "xx-0000"},
		{[]api.Form{first, has(0, no)}, ba, "x111111"},
		{[]api.Form{has(0, 1, then), ab}, both, "1111111"},
		{[]api.Form{has(0, 1, then), has(1, no)}, ab, "xx-----"},
		{[]api.Form{has(0, 1, then)}, ab, "1000000"},
		{[]api.Form{has(0, 1, then), has(1, 2, then), ab}, has(0, 2, and, 1, and), "xx11111"},
		{[]api.Form{first, both}, has(0, 0, no, or), "1111111"},
		{[]api.Form{first, neither}, has(0, 0, no, or), "xxxxxxx"},
		{[]api.Form{has(2, 2, no, and)}, both, "xxxxxxx"},
		{[]api.Form{has(2, no)}, both, "1000000"},
		{[]api.Form{has(2, no, no)}, has(2, 0, or), "xx11111"},
	} {
		askEach(t, c.said, c.asked, c.want)
	}
}

// pool of atoms of all kinds.
var pool = []string{
	"sub A B", "sub B C", "sub AB* C", "sub 1 AB+", "sub C A~", "same A B", "same AB- 0", "same C AB+", "same AB- BA-",
	"least A 1", "least B 2", "least AB-C- 1", "least 1 3", "least C~ 2", "most A 0", "most B 1", "most AB+ 2", "most 1 4", "most C 3",
	"nomore A B 0", "nomore B A -1", "nomore A C 1", "nomore AB+ C -1", "nomore C~ B -2", "nomore 1 A 1", "most 0 -1", "least A 7",
}

// chooser answers numbers from 0 to below n, one behind the other, always the same ones.
func chooser() func(n int) int {
	state := uint64(1)
	return func(n int) int {
		state = state*6364136223846793005 + 1442695040888963407
		return int(state >> 33 % uint64(n))
	}
}

// chosen is a right formula of up to six atoms of the pool, and of up to so many signs.
func chosen(t *testing.T, choose func(n int) int, signs int) api.Form {
	t.Helper()
	var texts []string
	for range 1 + choose(maxAtoms) {
		texts = append(texts, pool[choose(len(pool))])
	}
	two := func() int { return []int{and, or, and, then}[choose(4)] }
	code, depth, most := []int{choose(len(texts))}, 1, 1+choose(signs)
	// Each formula but one needs one more sign, that takes it.
	for len(code)+depth+1 <= most {
		switch k := choose(7); {
		case k == 0:
			code = append(code, no)
		case k <= 3 && depth >= 2:
			code, depth = append(code, two()), depth-1
		default:
			code, depth = append(code, choose(len(texts))), depth+1
		}
	}
	for range depth - 1 {
		code = append(code, two())
	}
	return of(t, texts, code...)
}

// someChosen are one formula, or more, up to so many.
func someChosen(t *testing.T, choose func(n int) int, most int) (l []api.Form) {
	t.Helper()
	signs := []int{1, 1, 3, maxCode}[choose(4)]
	for range 1 + choose(most) {
		l = append(l, chosen(t, choose, signs))
	}
	return l
}

// every world of u things.
func every(u int) (out []api.World) {
	for a := range 1 << u {
		for b := range 1 << u {
			for c := range 1 << u {
				out = append(out, api.World{Things: u, Has: [3]int{a, b, c}})
			}
		}
	}
	return out
}

// holds asks chapter 4 of a right formula.
func holds(t *testing.T, f api.Form, w api.World) bool {
	t.Helper()
	is, err := form.Holds(f, w)
	if err != nil {
		t.Fatalf("Holds(%v, %v): got %v", f, w, err)
	}
	return is
}

// found is the sign of the answer that the worlds one by one give.
func found(t *testing.T, l []api.Form, f api.Form, list []api.World) byte {
	t.Helper()
	var in, not int
	for _, w := range list {
		if slices.ContainsFunc(l, func(g api.Form) bool { return !holds(t, g, w) }) {
			continue
		}
		if holds(t, f, w) {
			in++
		} else {
			not++
		}
	}
	switch {
	case in+not == 0:
		return 'x'
	case not == 0:
		return '1'
	case in == 0:
		return '-'
	}
	return '0'
}

// enough of each kind of answer, so that a test has something to go by.
func enough(t *testing.T, kinds map[byte]int, least int) {
	t.Helper()
	for _, sign := range []byte("1-0x") {
		if kinds[sign] < least {
			t.Errorf("too few of %q: %v", sign, kinds)
		}
	}
}

// TestOneByOne: against every world of up to three things.
func TestOneByOne(t *testing.T) {
	var lists [4][]api.World
	for u := range lists {
		lists[u] = every(u)
	}
	choose, kinds := chooser(), map[byte]int{}
	for range 1500 {
		l, f, u := someChosen(t, choose, maxForms), chosen(t, choose, maxCode), choose(len(lists))
		sign := found(t, l, f, lists[u])
		askSign(t, l, f, u, sign)
		kinds[sign]++
	}
	enough(t, kinds, 50)
}

// TestMoreThings: against every world of four things, and of all that there may be.
func TestMoreThings(t *testing.T) {
	choose, list := chooser(), every(4)
	for range 40 {
		l, f := someChosen(t, choose, 3), chosen(t, choose, maxCode)
		askSign(t, l, f, 4, found(t, l, f, list))
	}
	list = every(maxThings)
	l := ones(t, "nomore A B -1", "nomore B C -1", "most AC+ 3")
	for _, text := range []string{"least C 2", "sub A B", "least B 3"} {
		f := ones(t, text)[0]
		askSign(t, l, f, maxThings, found(t, l, f, list))
	}
}

// opened asks chapter 13 of right formulas and things.
func opened(t *testing.T, l []api.Form, u int) bool {
	t.Helper()
	open, err := core.Open(l, u)
	if err != nil {
		t.Fatalf("Open(%v, %d): got %v", l, u, err)
	}
	return open
}

// negated asks chapter 4 for the other way round.
func negated(t *testing.T, f api.Form) api.Form {
	t.Helper()
	not, err := form.Negate(f)
	if err != nil {
		t.Fatalf("Negate(%v): got %v", f, err)
	}
	return not
}

// signOf by what is open with a formula, and with its negation.
func signOf(t *testing.T, l []api.Form, f api.Form, u int) byte {
	t.Helper()
	with := opened(t, append(slices.Clone(l), f), u)
	without := opened(t, append(slices.Clone(l), negated(t, f)), u)
	switch {
	case with && without:
		return '0'
	case with:
		return '1'
	case without:
		return '-'
	}
	return 'x'
}

// TestCannotFail: what follows does hold, and does not fail, together with what was said, of each number of things; and so of all of them.
func TestCannotFail(t *testing.T) {
	choose, kinds, always := chooser(), map[byte]int{}, map[byte]int{}
	for range 150 {
		l, f := someChosen(t, choose, maxForms-1), chosen(t, choose, 5)
		var want []byte
		for u := range maxThings + 1 {
			want = append(want, signOf(t, l, f, u))
			kinds[want[u]]++
		}
		askEach(t, l, f, answers(want))
		all, wrong := answers(want).always()
		if wrong == api.ErrState {
			always['x']++
		} else {
			always[map[int]byte{1: '1', -1: '-', 0: '0'}[all]]++
		}
	}
	enough(t, kinds, 50)
	enough(t, always, 3)
}

// TestTheOtherWayRound: of the negation all answers are turned round, those that are neither, and what is wrong, stay.
func TestTheOtherWayRound(t *testing.T) {
	choose := chooser()
	for range 100 {
		l, f := someChosen(t, choose, maxForms), chosen(t, choose, maxCode-1)
		not := negated(t, f)
		for u := range maxThings + 1 {
			got, err := Of(l, f, u)
			askOf(t, l, not, u, -got, plain.Told(err))
		}
		got, err := Always(l, f)
		askAlways(t, l, not, -got, plain.Told(err))
	}
}

// TestWhatWasSaid: each of those that are open follows, wherever it stands.
func TestWhatWasSaid(t *testing.T) {
	choose := chooser()
	for range 40 {
		l := someChosen(t, choose, maxForms)
		back := slices.Clone(l)
		slices.Reverse(back)
		var want []byte
		for u := range maxThings + 1 {
			if opened(t, l, u) {
				want = append(want, '1')
			} else {
				want = append(want, 'x')
			}
		}
		for _, f := range l {
			askEach(t, l, f, answers(want))
			askEach(t, back, f, answers(want))
		}
	}
}

// TestMostForms: what is asked is none of those that may be said; six are not too many beside it.
func TestMostForms(t *testing.T) {
	six := ones(t, "sub A B", "sub B C", "least A 1", "most C 3", "least CB- 1", "same A A")
	for _, c := range []struct {
		asked string
		want  answers
	}{
		{"least C 2", "xx11111"},
		{"sub C A", "xx-----"},
		{"least A 2", "xx-0000"},
		{"most A 2", "xx11111"},
		{"most C 2", "xx10000"},
	} {
		askEach(t, six, ones(t, c.asked)[0], c.want)
	}
}

// TestManyCubes: of formulas that have too many cubes, or no room for one more sign, all is told, too.
func TestManyCubes(t *testing.T) {
	code := []int{1, 4, and, 3, 2, 5, or, and, 0, or, and, no, 5, 5, then, and}
	never := of(t, []string{"least A 0", "least B 0", "least C 0", "sub 0 A", "sub 0 B", "sub 0 C"}, code...)
	noneInB := of(t, []string{"least A 0", "least B 1", "least C 0", "sub 0 A", "sub 0 B", "sub 0 C"}, code...)
	for _, f := range []api.Form{never, noneInB} {
		if _, err := cubes.Of(f); plain.Told(err) != api.ErrFull {
			t.Fatalf("cubes.Of(%v): got %v", f, err)
		}
	}
	noneInA := of(t, []string{"least A 1"}, append([]int{0}, slices.Repeat([]int{no}, maxCode-1)...)...)
	if _, err := form.Negate(noneInA); plain.Told(err) != api.ErrFull {
		t.Fatalf("Negate(%v): got %v", noneInA, err)
	}
	subAB, someInA := ones(t, "sub A B"), ones(t, "least A 1")
	askEach(t, []api.Form{never}, noneInB, "xxxxxxx")
	askEach(t, []api.Form{noneInB}, never, "-------")
	askEach(t, []api.Form{noneInB}, noneInA, "1000000")
	askEach(t, []api.Form{noneInB, subAB[0]}, noneInA, "1111111")
	askEach(t, someInA, noneInA, "x------")
	askEach(t, slices.Repeat([]api.Form{noneInA}, maxForms), subAB[0], "1111111")
	askEach(t, []api.Form{noneInA, someInA[0]}, noneInB, "xxxxxxx")
}

// wrongFormula is none, and what is wrong with it.
type wrongFormula struct {
	f     api.Form
	wrong api.Errno
}

// wrongFormulas are formulas that are none, and what chapter 4 says of them.
func wrongFormulas() []wrongFormula {
	a := api.Atom{What: 3, S: []int{0}, N: 1}
	one := []api.Atom{a}
	return []wrongFormula{
		{api.Form{}, api.ErrNone},
		{api.Form{Atoms: one}, api.ErrNone},
		{api.Form{Atoms: one, Code: []int{}}, api.ErrNone},
		{api.Form{Code: []int{0}}, api.ErrNone},
		{api.Form{Atoms: []api.Atom{{What: 3}}, Code: []int{0}}, api.ErrNone},
		{api.Form{Atoms: []api.Atom{a, {What: 1, S: []int{0}}}, Code: []int{0}}, api.ErrNone},
		{api.Form{Atoms: slices.Repeat(one, 7), Code: []int{0}}, api.ErrFull},
		{api.Form{Atoms: one, Code: append([]int{0}, slices.Repeat([]int{no}, maxCode)...)}, api.ErrFull},
		{api.Form{Atoms: []api.Atom{{What: 3, S: slices.Repeat([]int{0}, 13)}}, Code: []int{0}}, api.ErrFull},
		{api.Form{Atoms: []api.Atom{a, {}}, Code: []int{0}}, api.ErrRange},
		{api.Form{Atoms: []api.Atom{{What: 6, S: []int{0}}}, Code: []int{0}}, api.ErrRange},
		{api.Form{Atoms: []api.Atom{{What: 3, S: []int{9}}}, Code: []int{0}}, api.ErrRange},
		{api.Form{Atoms: []api.Atom{{What: 3, S: []int{0}, N: 21}}, Code: []int{0}}, api.ErrRange},
		{api.Form{Atoms: one, Code: []int{1}}, api.ErrRange},
		{api.Form{Atoms: one, Code: []int{-1}}, api.ErrRange},
		{api.Form{Atoms: one, Code: []int{14}}, api.ErrRange},
		{api.Form{Atoms: one, Code: []int{math.MinInt}}, api.ErrRange},
		{api.Form{Atoms: one, Code: []int{math.MaxInt}}, api.ErrRange},
		{api.Form{Atoms: []api.Atom{a, {What: 3, S: []int{0, 1}}}, Code: []int{0}}, api.ErrShape},
		{api.Form{Atoms: []api.Atom{{What: 3, S: []int{0}, T: []int{0}}}, Code: []int{0}}, api.ErrShape},
		{api.Form{Atoms: one, Code: []int{0, 0}}, api.ErrShape},
		{api.Form{Atoms: one, Code: []int{no}}, api.ErrShape},
		{api.Form{Atoms: one, Code: []int{0, and}}, api.ErrShape},
	}
}

// openOfAll are formulas that are open, of each number of things.
func openOfAll(t *testing.T) []api.Form {
	t.Helper()
	return ones(t, "sub A B", "sub B C", "most A 5", "same A A", "least 1 0", "sub A C")
}

// TestNoneAndFull: told ahead of all else.
func TestNoneAndFull(t *testing.T) {
	right := ones(t, "least A 1")[0]
	asked := []api.Form{right}
	for _, c := range wrongFormulas() {
		asked = append(asked, c.f)
	}
	six := slices.Repeat([]api.Form{right}, maxForms)
	for _, f := range asked {
		for u := -1; u <= maxThings+1; u++ {
			askWrong(t, nil, f, u, api.ErrNone)
			askWrong(t, []api.Form{}, f, u, api.ErrNone)
			askWrong(t, six[:0], f, u, api.ErrNone)
			for _, many := range []int{1, 2, 58} {
				askWrong(t, append(slices.Clone(six), slices.Repeat([]api.Form{right}, many)...), f, u, api.ErrFull)
			}
			for _, c := range wrongFormulas() {
				askWrong(t, append([]api.Form{c.f}, six...), f, u, api.ErrFull)
				askWrong(t, append(slices.Clone(six), c.f), f, u, api.ErrFull)
			}
		}
	}
	askEach(t, six, right, "x111111")
}

// TestWrongSaid: told ahead of wrong things, and of what is wrong with what is asked; of several, the first one's fault.
func TestWrongSaid(t *testing.T) {
	right, bad := openOfAll(t), wrongFormulas()
	for _, c := range bad {
		for many := range maxForms {
			for at := range many + 1 {
				l := slices.Insert(slices.Clone(right[:many]), at, c.f)
				for _, u := range []int{0, 3, maxThings, -1, maxThings + 1, math.MinInt, math.MaxInt} {
					askWrong(t, l, right[0], u, c.wrong)
				}
			}
		}
		for _, other := range bad {
			askWrong(t, []api.Form{right[0], c.f, right[1]}, other.f, 3, c.wrong)
			askWrong(t, []api.Form{right[0], c.f, other.f}, right[1], 3, c.wrong)
			askOf(t, []api.Form{c.f}, other.f, -1, 0, c.wrong)
			askOf(t, []api.Form{right[0], c.f, other.f}, other.f, 7, 0, c.wrong)
		}
		// Also behind such as are not open.
		askWrong(t, append(ones(t, "least A 7"), c.f), right[0], 3, c.wrong)
	}
}

// TestWrongThings: told ahead of what is wrong with what is asked, and of that they are not open.
func TestWrongThings(t *testing.T) {
	right := ones(t, "least A 1")[0]
	for _, l := range [][]api.Form{ones(t, "least A 1"), ones(t, "least A 7"), ones(t, "least A 1", "most A 0"), openOfAll(t)} {
		for _, u := range wrongThings {
			askOf(t, l, right, u, 0, api.ErrRange)
			for _, c := range wrongFormulas() {
				askOf(t, l, c.f, u, 0, api.ErrRange)
			}
		}
	}
}

// TestWrongAsked: told ahead of that they are not open; Always is told it, too, whatever they are open for.
func TestWrongAsked(t *testing.T) {
	for _, c := range wrongFormulas() {
		for _, l := range [][]api.Form{ones(t, "least A 1"), ones(t, "least A 7"), ones(t, "least A 1", "most A 0"), ones(t, "least 1 6"), openOfAll(t)} {
			for u := range maxThings + 1 {
				askWrong(t, l, c.f, u, c.wrong)
			}
		}
	}
}

// TestNotOpen: nothing follows from what excludes each other, whatever is asked; Always asks of the other numbers of things.
func TestNotOpen(t *testing.T) {
	never := ones(t, "least A 1", "most A 0")
	for _, text := range append(slices.Clone(pool), "least A 1", "most A 0") {
		f := ones(t, text)[0]
		askEach(t, never, f, "xxxxxxx")
		askEach(t, ones(t, "most 0 -1"), f, "xxxxxxx")
		none, all := ones(t, "most 1 0"), ones(t, "least 1 6")
		for u := range maxThings {
			askOf(t, none, f, u+1, 0, api.ErrState)
			askOf(t, all, f, u, 0, api.ErrState)
		}
		got, err := Of(none, f, 0)
		askAlways(t, none, f, got, plain.Told(err))
		got, err = Of(all, f, maxThings)
		askAlways(t, all, f, got, plain.Told(err))
	}
}

// spare has a list, with wrong numbers in the memory behind its length.
func spare(list []int) []int {
	return append(slices.Clone(list), 99, -99, 12)[:len(list)]
}

// roomy has a formula whose lists all have something wrong behind them.
func roomy(f api.Form) api.Form {
	f.Code = spare(f.Code)
	for i := range f.Atoms {
		f.Atoms[i].S, f.Atoms[i].T = spare(f.Atoms[i].S), spare(f.Atoms[i].T)
	}
	f.Atoms = append(f.Atoms, api.Atom{What: 9})[:len(f.Atoms)]
	return f
}

// whole are formulas with what lies behind their lists.
func whole(l []api.Form) []api.Form {
	out := slices.Clone(l[:cap(l)])
	for k, f := range out {
		f.Code, f.Atoms = f.Code[:cap(f.Code)], slices.Clone(f.Atoms[:cap(f.Atoms)])
		for i, a := range f.Atoms {
			f.Atoms[i].S, f.Atoms[i].T = a.S[:cap(a.S)], a.T[:cap(a.T)]
		}
		out[k] = f
	}
	return out
}

// TestNothingIsWritten: into formulas that are handed in, or what lies behind their lists; and that is not read.
func TestNothingIsWritten(t *testing.T) {
	made := func() []api.Form {
		l := []api.Form{
			roomy(of(t, []string{"sub A B", "nomore C A -1", "least AB+ 2"}, 0, 1, and, 2, no, or)),
			roomy(of(t, []string{"least A 1", "least B 1"}, 0, 1, or)),
			roomy(of(t, []string{"most AB+ 0"}, 0)),
		}
		return append(l, api.Form{Code: []int{99}}, api.Form{})[:3]
	}
	asked := func() []api.Form { return []api.Form{roomy(of(t, []string{"least A 1", "sub B C"}, 0, 1, then))} }
	l, f, keepL, keepF := made(), asked(), made(), asked()
	for u := -1; u <= maxThings+1; u++ {
		Of(l, f[0], u)
		Of(l[:2], f[0], u)
		Of(f, l[2], u)
	}
	Always(l, f[0])
	Always(l[:2], f[0])
	Always(f, l[2])
	if !reflect.DeepEqual(whole(l), whole(keepL)) || !reflect.DeepEqual(whole(f), whole(keepF)) {
		t.Errorf("got %v %v, want %v %v", whole(l), whole(f), whole(keepL), whole(keepF))
	}
	askEach(t, l, f[0], "xxxxxxx")
	askEach(t, l[:2], f[0], "x000000")
	askEach(t, f, l[1], "-000000")
}

// TestSameAgain: what is answered does not hang on calls before, nor on that one of them was wrong.
func TestSameAgain(t *testing.T) {
	l, f := ones(t, "least A 2", "least B 2"), ones(t, "least AB* 1")[0]
	for range 3 {
		askEach(t, l, f, "xx11000")
		askEach(t, l[:1], f, "xx00000")
		askOf(t, l, f, 7, 0, api.ErrRange)
		askWrong(t, nil, f, 3, api.ErrNone)
		askWrong(t, l, api.Form{}, 3, api.ErrNone)
		askWrong(t, []api.Form{l[0], {}}, f, 3, api.ErrNone)
		askEach(t, ones(t, "least A 7"), f, "xxxxxxx")
	}
}
