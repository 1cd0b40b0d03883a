package least

import (
	"math"
	"reflect"
	"slices"
	"testing"

	"vennhouse/api"
	"vennhouse/atom"
	"vennhouse/cubes"
	"vennhouse/form"
	"vennhouse/model"
	"vennhouse/plain"
)

// The numbers as chapters 4 and 9 and package api write them, so that the names are held against them, too.
const (
	and  = 10
	or   = 11
	no   = 12
	then = 13

	maxThings = 6
	maxCode   = 20
)

// none is what the list has where no number of things does, and all where each does.
const (
	none = "......."
	all  = "xxxxxxx"
)

// of has atoms, as texts, and a Code.
func of(t *testing.T, texts []string, code ...int) api.Form {
	t.Helper()
	f := api.Form{Code: code}
	for _, text := range texts {
		a, err := atom.Parse(text)
		if err != nil {
			t.Fatalf("Parse(%q): got %v", text, err)
		}
		f.Atoms = append(f.Atoms, a)
	}
	return f
}

// marks has a list's members as a text: x, where a number of things does.
func marks(l []bool) string {
	var out []byte
	for _, is := range l {
		if is {
			out = append(out, 'x')
		} else {
			out = append(out, '.')
		}
	}
	return string(out)
}

func askList(t *testing.T, f api.Form, want string, wrong api.Errno) {
	t.Helper()
	got, err := List(f)
	if marks(got) != want || plain.Told(err) != wrong {
		t.Errorf("List(%v): got %v %v, want %q %v", f, got, plain.Told(err), want, wrong)
	}
}

func askOf(t *testing.T, f api.Form, want int, wrong api.Errno) {
	t.Helper()
	got, err := Of(f)
	if got != want || plain.Told(err) != wrong {
		t.Errorf("Of(%v): got %d %v, want %d %v", f, got, plain.Told(err), want, wrong)
	}
}

func askFirm(t *testing.T, f api.Form, want bool, wrong api.Errno) {
	t.Helper()
	got, err := Firm(f)
	if got != want || plain.Told(err) != wrong {
		t.Errorf("Firm(%v): got %t %v, want %t %v", f, got, plain.Told(err), want, wrong)
	}
}

// askWhich asks of a right formula which numbers of things do, and the first of these.
func askWhich(t *testing.T, f api.Form, want string) {
	t.Helper()
	askList(t, f, want, api.OK)
	for u, mark := range want {
		if mark == 'x' {
			askOf(t, f, u, api.OK)
			return
		}
	}
	askOf(t, f, 0, api.ErrNone)
}

func TestNumbersOfTheChapter(t *testing.T) {
	got := [...]int{api.And, api.Or, api.No, api.Then, api.MaxThings, api.MaxCode}
	want := [...]int{and, or, no, then, maxThings, maxCode}
	if got != want {
		t.Errorf("numbers: got %v, want %v", got, want)
	}
}

// TestErrorIsNil: where nothing is wrong the error is nil, not an OK in an error.
func TestErrorIsNil(t *testing.T) {
	f := of(t, []string{"least A 1"}, 0)
	if _, err := Of(f); err != nil {
		t.Errorf("Of: got %v", err)
	}
	if _, err := List(f); err != nil {
		t.Errorf("List: got %v", err)
	}
	if _, err := Firm(f); err != nil {
		t.Errorf("Firm that is not: got %v", err)
	}
	if is, err := Firm(of(t, []string{"sub A A"}, 0)); !is || err != nil {
		t.Errorf("Firm that is: got %t %v", is, err)
	}
}

// TestWhichByHand: and that the formula turned round is firm, if none does.
func TestWhichByHand(t *testing.T) {
	for _, c := range []struct {
		texts []string
		code  []int
		want  string
	}{
		{[]string{"least A 0"}, []int{0}, all},
		{[]string{"least A 1"}, []int{0}, ".xxxxxx"},
		{[]string{"least A 2"}, []int{0}, "..xxxxx"},
		{[]string{"least A 5"}, []int{0}, ".....xx"},
		{[]string{"least A 6"}, []int{0}, "......x"},
		{[]string{"least A 7"}, []int{0}, none},
		{[]string{"least A 20"}, []int{0}, none},
		{[]string{"least A 1"}, []int{0, no}, all},
		{[]string{"most 1 0"}, []int{0}, "x......"},
		{[]string{"most 1 2"}, []int{0}, "xxx...."},
		{[]string{"most 1 5"}, []int{0}, "xxxxxx."},
		{[]string{"most 1 6"}, []int{0}, all},
		{[]string{"most 1 -1"}, []int{0}, none},
		{[]string{"same 0 1"}, []int{0}, "x......"},
		{[]string{"same 0 1"}, []int{0, no}, ".xxxxxx"},
		{[]string{"sub A A"}, []int{0, no}, none},
		{[]string{"nomore A B -3"}, []int{0}, "...xxxx"},
		// Not all above the least.
		{[]string{"nomore A A~ 0", "nomore A~ A 0"}, []int{0, 1, and}, "x.x.x.x"},
		{[]string{"nomore A A~ 0", "nomore A~ A 0"}, []int{0, 1, and, no}, ".xxxxxx"},
		{[]string{"nomore A A~ 0", "nomore A~ A 0", "least A 2"}, []int{0, 1, and, 2, and}, "....x.x"},
		{[]string{"nomore A A~ 1", "nomore A~ A -1"}, []int{0, 1, and}, ".x.x.x."},
		{[]string{"most 1 0", "least 1 4"}, []int{0, 1, or}, "x...xxx"},
		{[]string{"least 1 2", "least 1 5"}, []int{0, 1, then}, "xx...xx"},
		{[]string{"least 1 3", "most 1 3"}, []int{0, 1, and}, "...x..."},
		// Three that are in no two of the names.
		{[]string{"least AB-C- 1", "least BA-C- 1", "least CA-B- 1"}, []int{0, 1, and, 2, and}, "...xxxx"},
		{[]string{"least A 2", "least B 2", "most AB* 0"}, []int{0, 1, and, 2, and}, "....xxx"},
		{[]string{"least A 2", "least B 2", "most AB* 1"}, []int{0, 1, and, 2, and}, "...xxxx"},
		{[]string{"least A 4", "least B 3", "sub B A~"}, []int{0, 1, and, 2, and}, none},
		{[]string{"least A 3", "least B 3", "sub B A~"}, []int{0, 1, and, 2, and}, "......x"},
		// The first cube has a model later than the second.
		{[]string{"least A 4", "least B 2"}, []int{0, 1, or}, "..xxxxx"},
		{[]string{"least A 4", "least B 2"}, []int{1, 0, or}, "..xxxxx"},
		// Without any cube, and with the empty one.
		{[]string{"sub A B"}, []int{0, 0, no, and}, none},
		{[]string{"sub A B"}, []int{0, 0, no, and, no}, all},
	} {
		f := of(t, c.texts, c.code...)
		askWhich(t, f, c.want)
		not := of(t, c.texts, append(slices.Clone(c.code), no)...)
		askFirm(t, not, c.want == none, api.OK)
	}
}

// TestFirmByHand: for each number of things, the last ones too, and the first.
func TestFirmByHand(t *testing.T) {
	for _, c := range []struct {
		texts []string
		code  []int
		want  bool
	}{
		{[]string{"sub A A"}, []int{0}, true},
		{[]string{"sub AB* A"}, []int{0}, true},
		{[]string{"sub A AB*"}, []int{0}, false},
		{[]string{"sub A A"}, []int{0, no}, false},
		{[]string{"least A 0"}, []int{0}, true},
		{[]string{"least 1 1"}, []int{0}, false},
		{[]string{"most A 6"}, []int{0}, true},
		{[]string{"most A 5"}, []int{0}, false},
		{[]string{"most 1 5"}, []int{0}, false},
		{[]string{"most 1 0", "least 1 1"}, []int{0, 1, or}, true},
		{[]string{"most 1 2", "least 1 4"}, []int{0, 1, or}, false},
		{[]string{"most 1 2", "least 1 3"}, []int{0, 1, or}, true},
		{[]string{"nomore A B 6"}, []int{0}, true},
		{[]string{"nomore A B 5"}, []int{0}, false},
		{[]string{"nomore A A~ 0", "nomore A~ A 0"}, []int{0, 1, or}, true},
		{[]string{"nomore A A~ 0", "nomore A~ A -1"}, []int{0, 1, or}, true},
		{[]string{"nomore A A~ -1", "nomore A~ A -1"}, []int{0, 1, or}, false},
		{[]string{"sub A B", "sub B C", "sub A C"}, []int{0, 1, and, 2, then}, true},
		{[]string{"sub A B", "sub B C", "sub C A"}, []int{0, 1, and, 2, then}, false},
		{[]string{"sub A B", "nomore A B 0"}, []int{0, 1, then}, true},
		{[]string{"sub A B", "nomore A B 0"}, []int{1, 0, then}, false},
		{[]string{"sub A B"}, []int{0, 0, no, or}, true},
		{[]string{"sub A B"}, []int{0, 0, no, and}, false},
	} {
		askFirm(t, of(t, c.texts, c.code...), c.want, api.OK)
	}
}

// pool of atoms of all kinds.
var pool = []string{
	"sub A B", "sub B C", "sub AB* C", "sub 1 AB+", "sub C A~", "same A B", "same AB- 0", "same C AB+", "same AB- BA-",
	"least A 1", "least B 2", "least AB-C- 1", "least 1 3", "least C~ 2", "most A 0", "most B 1", "most AB+ 2", "most 1 4", "most C 3",
	"nomore A B 0", "nomore B A -1", "nomore A C 1", "nomore AB+ C -1", "nomore C~ B -2", "nomore 1 A 1", "most 0 -1", "least A 7",
}

// chooser answers numbers from 0 to below n, one behind the other, always the same ones.
func chooser() func(n int) int {
	state := uint64(1)
	return func(n int) int {
		state = state*6364136223846793005 + 1442695040888963407
		return int(state >> 33 % uint64(n))
	}
}

// chosen is a right formula of up to six atoms of the pool, and of up to 20 signs.
func chosen(t *testing.T, choose func(n int) int) api.Form {
	t.Helper()
	var texts []string
	for range 1 + choose(6) {
		texts = append(texts, pool[choose(len(pool))])
	}
	two := func() int { return []int{and, or, and, then}[choose(4)] }
	last := choose(len(texts))
	code, depth, most := []int{last}, 1, 2+choose(19)
	// Each formula but one needs one more sign, that takes it.
	for len(code)+depth+1 <= most {
		switch k := choose(7); {
		case k == 0:
			code = append(code, no)
		case k <= 3 && depth >= 2:
			code, depth = append(code, two()), depth-1
		default:
			// Where atoms come again late there are more cubes.
			last = (last + 1 + choose(2)) % len(texts)
			code, depth = append(code, last), depth+1
		}
	}
	for range depth - 1 {
		code = append(code, two())
	}
	return of(t, texts, code...)
}

// met tells in which numbers of things, to most, a formula holds in some world, and in which in each.
func met(t *testing.T, f api.Form, most int) (some, each []bool) {
	t.Helper()
	for u := range most + 1 {
		one, whole := false, true
		for k := range 1 << (3 * u) {
			mask := 1<<u - 1
			is, err := form.Holds(f, api.World{Things: u, Has: [3]int{k & mask, k >> u & mask, k >> (2 * u)}})
			if err != nil {
				t.Fatalf("Holds(%v): got %v", f, err)
			}
			one, whole = one || is, whole && is
		}
		some, each = append(some, one), append(each, whole)
	}
	return some, each
}

// TestAllWorlds: of up to three things: with fewer than the least it holds in no world, and what is firm holds in each.
func TestAllWorlds(t *testing.T) {
	choose := chooser()
	for range 200 {
		f := chosen(t, choose)
		some, each := met(t, f, 3)
		l, err := List(f)
		if err == nil && !slices.Equal(l[:len(some)], some) {
			t.Errorf("List(%v): got %v, want at first %v", f, l, some)
		}
		u, bad := Of(f)
		if first := slices.Index(some, true); err == nil && first >= 0 && (u != first || bad != nil) {
			t.Errorf("Of(%v): got %d %v, want %d", f, u, bad, first)
		}
		if firm, _ := Firm(f); firm && slices.Contains(each, false) {
			t.Errorf("Firm(%v): got %t, holds in each world: %v", f, firm, each)
		}
	}
}

// byModel tells of all numbers of things whether chapter 9 has a model, and whether it is sure.
func byModel(t *testing.T, f api.Form) (some, each []bool) {
	t.Helper()
	for u := range maxThings + 1 {
		w, err := model.Of(f, u)
		if err == nil {
			if is, err := form.Holds(f, w); !is || err != nil || w.Things != u {
				t.Errorf("Holds(%v, %v): got %t %v", f, w, is, err)
			}
		}
		is, _ := model.Sure(f, u)
		some, each = append(some, err == nil), append(each, is)
	}
	return some, each
}

// TestChosen: against chapter 9, number by number; where a formula's cubes, or its negation's, are too many, all are told so.
func TestChosen(t *testing.T) {
	choose := chooser()
	var leasts [maxThings + 2]int
	var firm, full int
	for range 3000 {
		f := chosen(t, choose)
		some, each := byModel(t, f)
		if _, err := cubes.Of(f); err != nil {
			askList(t, f, "", plain.Told(err))
			askOf(t, f, 0, plain.Told(err))
		} else {
			askWhich(t, f, marks(some))
			leasts[1+slices.Index(some, true)]++
		}
		not, err := form.Negate(f)
		if err == nil {
			_, err = cubes.Of(not)
		}
		if err != nil {
			askFirm(t, f, false, plain.Told(err))
			full++
			continue
		}
		is := !slices.Contains(each, false)
		askFirm(t, f, is, api.OK)
		if is {
			firm++
		}
	}
	if slices.Min(leasts[:5]) < 5 || firm < 50 || full < 20 {
		t.Errorf("too few of a kind: none, or least ones %v, firm %d, full %d", leasts, firm, full)
	}
}

// TestWrongFormulas: of the number that is told when there is none the list has no error: it says that none does.
func TestWrongFormulas(t *testing.T) {
	a := api.Atom{What: 3, S: []int{0}, N: 1}
	one := []api.Atom{a}
	for _, c := range []struct {
		f     api.Form
		wrong api.Errno
	}{
		{api.Form{}, api.ErrNone},
		{api.Form{Atoms: one}, api.ErrNone},
		{api.Form{Atoms: one, Code: []int{}}, api.ErrNone},
		{api.Form{Code: []int{0}}, api.ErrNone},
		{api.Form{Atoms: []api.Atom{{What: 3}}, Code: []int{0}}, api.ErrNone},
		{api.Form{Atoms: []api.Atom{a, {What: 1, S: []int{0}}}, Code: []int{0}}, api.ErrNone},
		{api.Form{Atoms: slices.Repeat(one, 7), Code: []int{0}}, api.ErrFull},
		{api.Form{Atoms: one, Code: append([]int{0}, slices.Repeat([]int{no}, maxCode)...)}, api.ErrFull},
		{api.Form{Atoms: []api.Atom{a, {}}, Code: []int{0}}, api.ErrRange},
		{api.Form{Atoms: []api.Atom{{What: 6, S: []int{0}}}, Code: []int{0}}, api.ErrRange},
		{api.Form{Atoms: []api.Atom{{What: 3, S: []int{9}}}, Code: []int{0}}, api.ErrRange},
		{api.Form{Atoms: []api.Atom{{What: 3, S: []int{0}, N: 21}}, Code: []int{0}}, api.ErrRange},
		{api.Form{Atoms: one, Code: []int{1}}, api.ErrRange},
		{api.Form{Atoms: one, Code: []int{-1}}, api.ErrRange},
		{api.Form{Atoms: one, Code: []int{14}}, api.ErrRange},
		{api.Form{Atoms: one, Code: []int{math.MinInt}}, api.ErrRange},
		{api.Form{Atoms: one, Code: []int{math.MaxInt}}, api.ErrRange},
		{api.Form{Atoms: []api.Atom{a, {What: 3, S: []int{0, 1}}}, Code: []int{0}}, api.ErrShape},
		{api.Form{Atoms: one, Code: []int{0, 0}}, api.ErrShape},
		{api.Form{Atoms: one, Code: []int{no}}, api.ErrShape},
		{api.Form{Atoms: one, Code: []int{0, and}}, api.ErrShape},
	} {
		askOf(t, c.f, 0, c.wrong)
		askFirm(t, c.f, false, c.wrong)
		if c.wrong == api.ErrNone {
			askList(t, c.f, none, api.OK)
			continue
		}
		askList(t, c.f, "", c.wrong)
	}
}

// TestFullOneWay: too many cubes, or signs, of the formula alone, or of its negation alone.
func TestFullOneWay(t *testing.T) {
	six := []string{"least A 0", "least B 0", "least C 0", "sub 0 A", "sub 0 B", "sub 0 C"}
	long := append([]int{0}, slices.Repeat([]int{no}, maxCode-1)...)
	three := []int{2, 4, 0, 1, and, no, 3, or, 5, 0, 1, then, and, then, and, and}
	for _, c := range []struct {
		code    []int
		of, not api.Errno
	}{
		// With No behind it there are 21 signs.
		{long, api.OK, api.ErrFull},
		{long[:maxCode-1], api.OK, api.OK},
		{[]int{1, 4, and, 3, 2, 5, or, and, 0, or, and, no, 5, 5, then, and}, api.ErrFull, api.ErrFull},
		// Three cubes, of which No makes too many.
		{three, api.OK, api.ErrFull},
		{append(slices.Clone(three), no), api.ErrFull, api.ErrFull},
	} {
		f := of(t, six, c.code...)
		if c.of != api.OK {
			askList(t, f, "", c.of)
			askOf(t, f, 0, c.of)
		} else if l, err := List(f); len(l) != maxThings+1 || err != nil {
			t.Errorf("List(%v): got %v %v", f, l, err)
		}
		if c.not != api.OK {
			askFirm(t, f, false, c.not)
		} else if is, err := Firm(f); err != nil {
			t.Errorf("Firm(%v): got %t %v", f, is, err)
		}
	}
}

// spare has a list, with wrong numbers in the memory behind its length.
func spare(list []int) []int {
	return append(slices.Clone(list), 99, -99, 12)[:len(list)]
}

// TestNothingIsWritten: into a formula that is handed in, or what lies behind its lists; and that is not read.
func TestNothingIsWritten(t *testing.T) {
	made := func() api.Form {
		f := of(t, []string{"sub A B", "nomore C A -1", "least AB+ 2"}, 0, 1, and, 2, and)
		f.Code = spare(f.Code)
		for i := range f.Atoms {
			f.Atoms[i].S, f.Atoms[i].T = spare(f.Atoms[i].S), spare(f.Atoms[i].T)
		}
		f.Atoms = append(f.Atoms, api.Atom{What: 9})[:3]
		return f
	}
	f, keep := made(), made()
	for range 2 {
		askWhich(t, f, "..xxxxx")
		askFirm(t, f, false, api.OK)
	}
	if !reflect.DeepEqual(whole(f), whole(keep)) {
		t.Errorf("got %v, want %v", whole(f), whole(keep))
	}
}

// whole is a formula with what lies behind its lists.
func whole(f api.Form) api.Form {
	f.Code, f.Atoms = f.Code[:cap(f.Code)], slices.Clone(f.Atoms[:cap(f.Atoms)])
	for i, a := range f.Atoms {
		f.Atoms[i].S, f.Atoms[i].T = a.S[:cap(a.S)], a.T[:cap(a.T)]
	}
	return f
}

// TestSameAgain: what is answered is the caller's, and does not hang on calls before, nor on that one of them was wrong.
func TestSameAgain(t *testing.T) {
	f := of(t, []string{"most A 1", "least B 3"}, 0, 1, and)
	for range 3 {
		askWhich(t, f, "...xxxx")
		l, _ := List(f)
		for i := range l[:cap(l)] {
			l[:cap(l)][i] = i < 3
		}
		askWhich(t, f, "...xxxx")
		askFirm(t, f, false, api.OK)
		askOf(t, api.Form{}, 0, api.ErrNone)
		askFirm(t, of(t, []string{"sub A A"}, 0), true, api.OK)
		askOf(t, of(t, []string{"least A 7"}, 0), 0, api.ErrNone)
	}
}
