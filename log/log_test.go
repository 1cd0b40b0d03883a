package log

import (
	"fmt"
	"math"
	"reflect"
	"slices"
	"testing"

	"vennhouse/api"
	"vennhouse/atom"
	"vennhouse/form"
	"vennhouse/plain"
)

// The numbers as the chapters and package api write them, so that the names are held against them, too.
const (
	no        = 12
	maxThings = 6
	maxForms  = 6
)

// wrongThings are numbers of things that are none.
var wrongThings = []int{
	-1, -2, -6, 7, 8, 9, 62, 63, 64, 1 << 31, 1 << 32, 1 << 62, -1 << 32,
	math.MinInt, math.MinInt + 1, math.MinInt + 6, math.MaxInt - 1, math.MaxInt,
}

// atomOf a text.
func atomOf(t *testing.T, text string) api.Atom {
	t.Helper()
	a, err := atom.Parse(text)
	if err != nil {
		t.Fatalf("Parse(%q): got %v", text, err)
	}
	return a
}

// said is an atom as a text, behind a ~, if it is said not to hold.
type said string

// parts are the atom, and whether it holds.
func (s said) parts(t *testing.T) (api.Atom, bool) {
	t.Helper()
	if s[0] == '~' {
		return atomOf(t, string(s[1:])), false
	}
	return atomOf(t, string(s)), true
}

// form that All is to have for it.
func (s said) form(t *testing.T) api.Form {
	t.Helper()
	its, holds := s.parts(t)
	if holds {
		return api.Form{Atoms: []api.Atom{its}, Code: []int{0}}
	}
	return api.Form{Atoms: []api.Atom{its}, Code: []int{0, no}}
}

// made is a Log of u things.
func made(t *testing.T, u int) *Log {
	t.Helper()
	l, err := New(u)
	if err != nil || l == nil {
		t.Fatalf("New(%d): got %v %v", u, l, err)
	}
	return l
}

// say it all, and be told the same of each.
func say(t *testing.T, l *Log, wrong api.Errno, all ...said) {
	t.Helper()
	for _, s := range all {
		its, holds := s.parts(t)
		if err := l.Say(its, holds); plain.Told(err) != wrong {
			t.Errorf("Say(%q): got %v, want %v", s, plain.Told(err), wrong)
		}
	}
}

// sync, and be told so.
func sync(t *testing.T, l *Log, wrong api.Errno) {
	t.Helper()
	if err := l.Sync(); plain.Told(err) != wrong {
		t.Errorf("Sync: got %v, want %v", plain.Told(err), wrong)
	}
}

// same formulas, where an empty list and nil are the same.
func same(l, m []api.Form) bool {
	return slices.EqualFunc(l, m, func(f, g api.Form) bool {
		return slices.Equal(f.Code, g.Code) && slices.EqualFunc(f.Atoms, g.Atoms, func(a, b api.Atom) bool {
			return a.What == b.What && a.N == b.N && slices.Equal(a.S, b.S) && slices.Equal(a.T, b.T)
		})
	})
}

// is what a Log tells of itself to be this?
func is(t *testing.T, l *Log, bytes, safe int, all ...said) {
	t.Helper()
	var want []api.Form
	for _, s := range all {
		want = append(want, s.form(t))
	}
	if got := l.All(); !same(got, want) {
		t.Errorf("All: got %v, want %v", got, want)
	}
	if l.Bytes() != bytes || l.Safe() != safe {
		t.Errorf("Bytes, Safe: got %d %d, want %d %d", l.Bytes(), l.Safe(), bytes, safe)
	}
	if !l.Open() {
		t.Errorf("Open: got false of %q", all)
	}
}

// ends are how many bytes there are behind none, one, two .. of the records of what is said.
func ends(t *testing.T, u int, all ...said) []int {
	t.Helper()
	l, out := made(t, u), []int{0}
	for _, s := range all {
		say(t, l, api.OK, s)
		out = append(out, l.Bytes())
	}
	return out
}

func TestNumbersOfTheChapter(t *testing.T) {
	got := [...]int{api.No, api.MaxThings, api.MaxForms}
	want := [...]int{no, maxThings, maxForms}
	if got != want {
		t.Errorf("numbers: got %v, want %v", got, want)
	}
	if api.ErrRange != 1 || api.ErrFull != 4 || api.ErrState != 6 || api.ErrClash != 7 {
		t.Errorf("errors: got %d %d %d %d", int(api.ErrRange), int(api.ErrFull), int(api.ErrState), int(api.ErrClash))
	}
}

// TestErrorIsNil: where nothing is wrong the error is nil, not an OK in an error.
func TestErrorIsNil(t *testing.T) {
	l, err := New(3)
	if err != nil {
		t.Errorf("New: got %v", err)
	}
	if err := l.Say(atomOf(t, "least A 1"), true); err != nil {
		t.Errorf("Say: got %v", err)
	}
	if err := l.Sync(); err != nil {
		t.Errorf("Sync: got %v", err)
	}
}

func TestNew(t *testing.T) {
	for u := range maxThings + 1 {
		l := made(t, u)
		is(t, l, 0, 0)
		sync(t, l, api.OK)
		l.Crash(0)
		is(t, l, 0, 0)
	}
	for _, u := range wrongThings {
		if l, err := New(u); l != nil || plain.Told(err) != api.ErrRange {
			t.Errorf("New(%d): got %v %v", u, l, err)
		}
	}
}

// fitting are as many as may be said, of atoms of all kinds; of three things or more all of them hold somewhere.
var fitting = []said{"sub A B", "~same A B", "least AB+ 2", "~most C 0", "nomore C A~ -1", "~nomore 1 0 2"}

// TestSay: what is said is there, as it was said, one record for each; nothing of it is safe.
func TestSay(t *testing.T) {
	for u := 3; u <= maxThings; u++ {
		l, before := made(t, u), 0
		for i, s := range fitting {
			say(t, l, api.OK, s)
			if l.Bytes()-before < 2 {
				t.Errorf("%q: %d bytes, then %d", s, before, l.Bytes())
			}
			before = l.Bytes()
			is(t, l, before, 0, fitting[:i+1]...)
		}
	}
}

// TestSaidAgain: the same may be said twice, and counts twice.
func TestSaidAgain(t *testing.T) {
	six := slices.Repeat([]said{"least A 1"}, maxForms)
	l, at := made(t, 1), ends(t, 1, six...)
	say(t, l, api.OK, six...)
	is(t, l, at[maxForms], 0, six...)
	say(t, l, api.ErrFull, "least A 1", "least B 7", "~least A 1")
	is(t, l, at[maxForms], 0, six...)
}

// TestEveryAtom: every atom, with all signs and numbers, is kept as it was said, whether it holds or not.
func TestEveryAtom(t *testing.T) {
	texts := []string{"sub A B", "same C 0", "same 1~ ABC+*~01--", "sub 1ABC+++~~~~~ 0", "nomore ABC** C~~ 20", "nomore 0 1 -20", "nomore A A 0", "nomore C B -7"}
	for n := -20; n <= 20; n++ {
		texts = append(texts, fmt.Sprint("least A ", n), fmt.Sprint("most CB- ", n))
	}
	for _, text := range texts {
		for _, s := range []said{said(text), said("~" + text)} {
			its, holds := s.parts(t)
			l := made(t, maxThings)
			// Of some it leaves no World that they hold, or that they do not.
			if err := l.Say(its, holds); plain.Told(err) == api.ErrClash {
				is(t, l, 0, 0)
				continue
			}
			is(t, l, l.Bytes(), 0, s)
			sync(t, l, api.OK)
			l.Crash(0)
			is(t, l, l.Bytes(), l.Bytes(), s)
		}
	}
}

// TestClash: what leaves no World of so many things is not said; what fits then still is.
func TestClash(t *testing.T) {
	for _, c := range []struct {
		u     int
		all   []said
		clash said
		then  said
	}{
		{3, nil, "least A 4", "least A 3"},
		{3, nil, "~sub A A", "sub A A"},
		{3, nil, "same A A~", "~same A A~"},
		{0, nil, "~same 1 0", "same 1 0"},
		{0, nil, "least A 1", "most A 0"},
		{0, nil, "~sub A B", "sub A B"},
		{maxThings, nil, "least 1 7", "least 1 6"},
		{maxThings, nil, "most 1 5", "least 1 6"},
		{2, []said{"least A 1"}, "~least A 1", "least A 1"},
		{2, []said{"~least A 1"}, "least A 1", "most A 0"},
		{2, []said{"least A 1", "sub A B"}, "most B 0", "least B 1"},
		{4, []said{"least A 2", "least B 2", "same AB* 0"}, "least C~ 5", "same AB+ 1"},
		{4, []said{"least A 2", "least B 2", "same AB* 0"}, "~same AB+ 1", "same AB+ 1"},
		{5, []said{"least A 2", "least B 2", "same AB* 0"}, "least AB+~ 2", "~same AB+ 1"},
		{3, []said{"nomore A B -1", "nomore B C -1"}, "nomore C A 1", "nomore C A 2"},
		{3, []said{"sub A B", "sub B C", "sub C A", "~most A 1", "~least A 3"}, "~same A C", "least A~ 1"},
	} {
		l, at := made(t, c.u), ends(t, c.u, c.all...)
		say(t, l, api.OK, c.all...)
		say(t, l, api.ErrClash, c.clash, c.clash)
		is(t, l, at[len(c.all)], 0, c.all...)
		say(t, l, api.OK, c.then)
		is(t, l, l.Bytes(), 0, append(slices.Clone(c.all), c.then)...)
	}
}

// wrongAtoms are atoms that are none, and what chapter 3 says of them.
var wrongAtoms = []struct {
	its   api.Atom
	wrong api.Errno
}{
	{api.Atom{}, api.ErrRange},
	{api.Atom{What: 6, S: []int{0}}, api.ErrRange},
	{api.Atom{What: -1, S: []int{0}}, api.ErrRange},
	{api.Atom{What: math.MinInt, S: []int{0}}, api.ErrRange},
	{api.Atom{What: math.MaxInt}, api.ErrRange},
	{api.Atom{What: 3}, api.ErrNone},
	{api.Atom{What: 1, S: []int{0}}, api.ErrNone},
	{api.Atom{What: 3, S: slices.Repeat([]int{0}, 13)}, api.ErrFull},
	{api.Atom{What: 2, S: []int{0}, T: slices.Repeat([]int{9}, 13)}, api.ErrFull},
	{api.Atom{What: 3, S: []int{9}}, api.ErrRange},
	{api.Atom{What: 3, S: []int{-1}}, api.ErrRange},
	{api.Atom{What: 5, S: []int{0}, T: []int{math.MaxInt}}, api.ErrRange},
	{api.Atom{What: 3, S: []int{0, 1}}, api.ErrShape},
	{api.Atom{What: 4, S: []int{0}, T: []int{0}}, api.ErrShape},
	{api.Atom{What: 3, S: []int{0}, N: 21}, api.ErrRange},
	{api.Atom{What: 4, S: []int{0}, N: -21}, api.ErrRange},
	{api.Atom{What: 5, S: []int{0}, T: []int{0}, N: math.MinInt}, api.ErrRange},
	{api.Atom{What: 1, S: []int{0}, T: []int{0}, N: 1}, api.ErrRange},
}

// sayWrong says what is none, both ways.
func sayWrong(t *testing.T, l *Log, stopped bool) {
	t.Helper()
	for _, c := range wrongAtoms {
		want := c.wrong
		if stopped {
			want = api.ErrState
		}
		for _, holds := range []bool{true, false} {
			if err := l.Say(c.its, holds); plain.Told(err) != want {
				t.Errorf("Say(%v, %v): got %v, want %v", c.its, holds, plain.Told(err), want)
			}
		}
	}
}

// TestWrongAtoms: told, ahead of that as many as may be were said, and nothing is changed; behind that it has stopped.
func TestWrongAtoms(t *testing.T) {
	l, at := made(t, 3), ends(t, 3, fitting...)
	for i, s := range fitting {
		sayWrong(t, l, false)
		is(t, l, at[i], 0, fitting[:i]...)
		say(t, l, api.OK, s)
	}
	sayWrong(t, l, false)
	is(t, l, at[maxForms], 0, fitting...)
	l.Fail(0)
	sayWrong(t, l, false)
	sync(t, l, api.ErrState)
	sayWrong(t, l, true)
	is(t, l, at[maxForms], 0, fitting...)
}

// TestFull: told ahead of a clash, until a crash makes room.
func TestFull(t *testing.T) {
	l, at := made(t, 3), ends(t, 3, fitting...)
	say(t, l, api.OK, fitting[:5]...)
	sync(t, l, api.OK)
	say(t, l, api.ErrClash, "least A 7", "~sub A A")
	say(t, l, api.OK, fitting[5])
	say(t, l, api.ErrFull, "sub A B", "least A 7", "~sub A A", "~sub A B")
	is(t, l, at[6], at[5], fitting...)
	l.Crash(0)
	is(t, l, at[5], at[5], fitting[:5]...)
	say(t, l, api.ErrClash, "least A 7")
	say(t, l, api.OK, fitting[5])
	say(t, l, api.ErrFull, "sub A B")
	is(t, l, at[6], at[5], fitting...)
}

// TestSync: all that is there is safe, and stays so whatever crashes.
func TestSync(t *testing.T) {
	l, at := made(t, 4), ends(t, 4, fitting...)
	for i, s := range fitting {
		sync(t, l, api.OK)
		is(t, l, at[i], at[i], fitting[:i]...)
		say(t, l, api.OK, s)
		is(t, l, at[i+1], at[i], fitting[:i+1]...)
		sync(t, l, api.OK)
		sync(t, l, api.OK)
		for _, keep := range []int{0, -1, 1, 1000, math.MinInt, math.MaxInt} {
			l.Crash(keep)
			is(t, l, at[i+1], at[i+1], fitting[:i+1]...)
		}
	}
}

// TestFailAtSay: of the record half the bytes, rounded down, are there, and what was said is as it was ahead.
func TestFailAtSay(t *testing.T) {
	for _, s := range append(slices.Clone(fitting), "sub AC* B", "~same AC* B", "least 1 3", "~most ABC++ 0") {
		for ahead := range 3 {
			first := []said{"sub A B", "least 1 2"}[:ahead]
			at := ends(t, 3, append(slices.Clone(first), s)...)
			l := made(t, 3)
			l.Fail(ahead)
			say(t, l, api.OK, first...)
			say(t, l, api.ErrState, s)
			is(t, l, at[ahead]+(at[ahead+1]-at[ahead])/2, 0, first...)
			say(t, l, api.ErrState, s, "sub A B", "least A 7")
			sync(t, l, api.ErrState)
			is(t, l, at[ahead]+(at[ahead+1]-at[ahead])/2, 0, first...)
			l.Crash(math.MaxInt)
			is(t, l, at[ahead], at[ahead], first...)
			say(t, l, api.OK, s)
			is(t, l, at[ahead+1], at[ahead], append(slices.Clone(first), s)...)
		}
	}
}

// TestFailAtSync: it does nothing.
func TestFailAtSync(t *testing.T) {
	l, at := made(t, 3), ends(t, 3, fitting...)
	say(t, l, api.OK, fitting[0])
	sync(t, l, api.OK)
	say(t, l, api.OK, fitting[1])
	l.Fail(1)
	say(t, l, api.OK, fitting[2])
	sync(t, l, api.ErrState)
	is(t, l, at[3], at[1], fitting[:3]...)
	sync(t, l, api.ErrState)
	say(t, l, api.ErrState, fitting[3])
	is(t, l, at[3], at[1], fitting[:3]...)
	l.Crash(0)
	is(t, l, at[1], at[1], fitting[0])
	sync(t, l, api.OK)
	say(t, l, api.OK, fitting[1])
	is(t, l, at[2], at[1], fitting[:2]...)
}

// TestFailCounts: what comes to a record, and a Sync, are steps; what is wrong, and what only asks, are none.
func TestFailCounts(t *testing.T) {
	for n := range 12 {
		l := made(t, 3)
		l.Fail(n)
		for step := range n {
			sayWrong(t, l, false)
			say(t, l, api.ErrClash, "least A 7", "~sub A A")
			l.All()
			l.Open()
			l.Bytes()
			l.Safe()
			if step%2 == 0 {
				sync(t, l, api.OK)
				continue
			}
			say(t, l, api.OK, "sub A B")
		}
		said, bytes, safe := len(l.All()), l.Bytes(), l.Safe()
		sync(t, l, api.ErrState)
		say(t, l, api.ErrState, "sub A B")
		if len(l.All()) != said || l.Bytes() != bytes || l.Safe() != safe {
			t.Errorf("%d steps: got %d %d %d, want %d %d %d", n, len(l.All()), l.Bytes(), l.Safe(), said, bytes, safe)
		}
	}
}

// TestFullIsNoStep: neither is it for one too many.
func TestFullIsNoStep(t *testing.T) {
	l := made(t, 3)
	l.Fail(maxForms)
	say(t, l, api.OK, fitting...)
	say(t, l, api.ErrFull, "sub A B", "least A 7")
	is(t, l, l.Bytes(), 0, fitting...)
	sync(t, l, api.ErrState)
	say(t, l, api.ErrState, "sub A B", "least A 7")
	is(t, l, l.Bytes(), 0, fitting...)
}

// TestFailNever: below 0, and while none was told.
func TestFailNever(t *testing.T) {
	for _, n := range []int{-1, -2, -7, math.MinInt, math.MinInt + 1, math.MaxInt, 1 << 32} {
		l := made(t, 3)
		for range 40 {
			sync(t, l, api.OK)
		}
		l.Fail(n)
		for range 40 {
			sync(t, l, api.OK)
		}
		say(t, l, api.OK, fitting...)
		is(t, l, l.Bytes(), 0, fitting...)
	}
}

// TestFailAnew: a new one takes the place of the one ahead, sooner, later, or never.
func TestFailAnew(t *testing.T) {
	for first := -1; first < 6; first++ {
		for passed := range max(first, 0) + 1 {
			for second := -1; second < 6; second++ {
				l := made(t, 3)
				l.Fail(first)
				for range passed {
					sync(t, l, api.OK)
				}
				l.Fail(second)
				for range max(second, 0) {
					sync(t, l, api.OK)
				}
				if second < 0 {
					say(t, l, api.OK, fitting...)
					continue
				}
				say(t, l, api.ErrState, "sub A B")
			}
		}
	}
}

// TestFailWhereStopped: what has stopped goes on after a crash alone, which forgets it.
func TestFailWhereStopped(t *testing.T) {
	for _, n := range []int{-1, 0, 1, 5, math.MinInt, math.MaxInt} {
		l, at := made(t, 3), ends(t, 3, fitting[0])
		l.Fail(0)
		sync(t, l, api.ErrState)
		l.Fail(n)
		for range 8 {
			sync(t, l, api.ErrState)
			say(t, l, api.ErrState, fitting[0])
		}
		is(t, l, 0, 0)
		l.Crash(0)
		say(t, l, api.OK, fitting[0])
		for range 8 {
			sync(t, l, api.OK)
		}
		is(t, l, at[1], at[1], fitting[0])
	}
}

// TestCrashForgetsFail: also where it has not come to it.
func TestCrashForgetsFail(t *testing.T) {
	for n := range 4 {
		l := made(t, 3)
		l.Fail(n)
		l.Crash(0)
		say(t, l, api.OK, fitting...)
		sync(t, l, api.OK)
		is(t, l, l.Bytes(), l.Bytes(), fitting...)
	}
}

// left are how many of the records end within so many bytes.
func left(at []int, bytes int) int {
	return len(at) - 1 - len(slices.DeleteFunc(slices.Clone(at), func(end int) bool { return end <= bytes }))
}

// TestCrashKeeps: of what is not safe the first bytes, cut to whole records.
func TestCrashKeeps(t *testing.T) {
	at := ends(t, 3, fitting...)
	for synced := range maxForms + 1 {
		for keep := -2; keep <= at[maxForms]+2; keep++ {
			l := made(t, 3)
			say(t, l, api.OK, fitting[:synced]...)
			sync(t, l, api.OK)
			say(t, l, api.OK, fitting[synced:]...)
			l.Crash(keep)
			k := left(at, at[synced]+max(keep, 0))
			is(t, l, at[k], at[k], fitting[:k]...)
			// It goes on with what the records left say.
			say(t, l, clashOrFull(k), "least A 7")
			say(t, l, api.OK, fitting[k:]...)
			is(t, l, at[maxForms], at[k], fitting...)
			say(t, l, api.ErrFull, fitting[0])
		}
	}
}

// clashOrFull is what is told of what clashes, where so many were said.
func clashOrFull(many int) api.Errno {
	if many == maxForms {
		return api.ErrFull
	}
	return api.ErrClash
}

// TestCrashOfHalf: the half of a record is gone, whatever is kept; whole ones ahead of it are kept, as far as was told.
func TestCrashOfHalf(t *testing.T) {
	at := ends(t, 3, fitting...)
	for stop := range maxForms {
		for synced := range stop + 1 {
			for keep := -1; keep <= at[maxForms]; keep++ {
				l := made(t, 3)
				say(t, l, api.OK, fitting[:synced]...)
				sync(t, l, api.OK)
				say(t, l, api.OK, fitting[synced:stop]...)
				l.Fail(0)
				say(t, l, api.ErrState, fitting[stop])
				l.Crash(keep)
				k := min(left(at, at[synced]+max(keep, 0)), stop)
				is(t, l, at[k], at[k], fitting[:k]...)
			}
		}
	}
}

// TestCrashKeepsAll: great and small numbers to keep.
func TestCrashKeepsAll(t *testing.T) {
	at := ends(t, 3, fitting...)
	for _, keep := range []int{math.MaxInt, math.MaxInt - 1, 1 << 32, 1 << 31, -1, -1 << 32, math.MinInt, math.MinInt + 1} {
		l := made(t, 3)
		say(t, l, api.OK, fitting[:2]...)
		sync(t, l, api.OK)
		say(t, l, api.OK, fitting[2:4]...)
		l.Crash(keep)
		k := 2
		if keep > 0 {
			k = 4
		}
		is(t, l, at[k], at[k], fitting[:k]...)
		l.Crash(keep)
		is(t, l, at[k], at[k], fitting[:k]...)
	}
}

// TestCrashFrees: what is lost clashes with nothing any more; what is left still does.
func TestCrashFrees(t *testing.T) {
	l := made(t, 2)
	say(t, l, api.OK, "least A 1")
	sync(t, l, api.OK)
	say(t, l, api.OK, "least B 1", "same AB* 0")
	say(t, l, api.ErrClash, "least A 2", "most A 0", "most B 0")
	l.Crash(0)
	say(t, l, api.ErrClash, "most A 0")
	say(t, l, api.OK, "most B 0", "least A 2")
	say(t, l, api.ErrClash, "least B 1")
	is(t, l, l.Bytes(), ends(t, 2, "least A 1")[1], "least A 1", "most B 0", "least A 2")
}

// spare has a list, with wrong numbers in the memory behind its length.
func spare(list ...int) []int {
	return append(slices.Clone(list), 99, -99, 12)[:len(list)]
}

// TestNothingIsKeptOrWritten: no list that is handed in, nor what lies behind it.
func TestNothingIsKeptOrWritten(t *testing.T) {
	l := made(t, 3)
	its := api.Atom{What: 5, S: spare(0, 1, 5), T: spare(2), N: 1}
	if err := l.Say(its, false); err != nil {
		t.Fatalf("Say: got %v", err)
	}
	if !slices.Equal(its.S[:6], []int{0, 1, 5, 99, -99, 12}) || !slices.Equal(its.T[:4], []int{2, 99, -99, 12}) {
		t.Errorf("written into: got %v %v", its.S[:6], its.T[:4])
	}
	clear(its.S[:6])
	clear(its.T[:4])
	is(t, l, l.Bytes(), 0, "~nomore AB+ C 1")
	say(t, l, api.ErrClash, "nomore AB+ C 1")
	l.Crash(math.MaxInt)
	is(t, l, l.Bytes(), l.Bytes(), "~nomore AB+ C 1")
}

// spoil all that is handed out, and what lies behind it.
func spoil(all []api.Form) {
	all = all[:cap(all)]
	for _, f := range all {
		for _, a := range f.Atoms {
			for _, list := range [][]int{a.S, a.T} {
				for i := range list[:cap(list)] {
					list[:cap(list)][i] = 77
				}
			}
		}
		for i := range f.Code[:cap(f.Code)] {
			f.Code[:cap(f.Code)][i] = 78
		}
		clear(f.Atoms[:cap(f.Atoms)])
	}
	clear(all)
}

// TestAllIsTheCallers: what comes out is fresh memory, and no two lists share any.
func TestAllIsTheCallers(t *testing.T) {
	l, at := made(t, 3), ends(t, 3, fitting...)
	say(t, l, api.OK, fitting...)
	one, other := l.All(), l.All()
	spoil(one)
	if want := l.All(); !reflect.DeepEqual(other, want) {
		t.Errorf("got %v, want %v", other, want)
	}
	is(t, l, at[maxForms], 0, fitting...)
	for i := range other {
		// One of a list's formulas spoiled leaves the others as they are.
		all := l.All()
		spoil(all[i : i+1 : i+1])
		if !same(slices.Delete(slices.Clone(all), i, i+1), slices.Delete(l.All(), i, i+1)) {
			t.Errorf("formula %d is shared: got %v", i, all)
		}
	}
	six := made(t, 3)
	say(t, six, api.OK, slices.Repeat([]said{"same A A"}, maxForms)...)
	f := six.All()[0]
	f.Atoms[0].S[0] = 2
	if f.Atoms[0].T[0] != 0 {
		t.Errorf("S and T are shared: got %v", f)
	}
	is(t, six, six.Bytes(), 0, slices.Repeat([]said{"same A A"}, maxForms)...)
}

// TestTwoLogs: nothing that one is told is another one's.
func TestTwoLogs(t *testing.T) {
	l, m, at := made(t, 3), made(t, 3), ends(t, 3, fitting...)
	l.Fail(1)
	say(t, l, api.OK, fitting[0])
	say(t, m, api.OK, fitting[:2]...)
	sync(t, m, api.OK)
	is(t, l, at[1], 0, fitting[0])
	sync(t, l, api.ErrState)
	say(t, m, api.OK, fitting[2])
	l.Crash(0)
	is(t, l, 0, 0)
	is(t, m, at[3], at[2], fitting[:3]...)
}

// pool of atoms of all kinds, both ways.
var pool = []said{
	"sub A B", "sub B C", "~sub AB* C", "sub 1 AB+", "sub C A~", "same A B", "~same AB- 0", "same C AB+", "~same AB- BA-",
	"least A 1", "least B 2", "~least AB-C- 1", "least 1 3", "least C~ 2", "most A 0", "~most B 1", "most AB+ 2", "most 1 4",
	"nomore A B 0", "~nomore B A -1", "nomore A C 1", "nomore AB+ C -1", "~nomore C~ B -2", "most 0 -1", "least A 7", "~least A 1",
}

// chooser answers numbers from 0 to below n, one behind the other, always the same ones.
func chooser() func(n int) int {
	state := uint64(1)
	return func(n int) int {
		state = state*6364136223846793005 + 1442695040888963407
		return int(state >> 33 % uint64(n))
	}
}

// every world of u things.
func every(u int) (out []api.World) {
	for a := range 1 << u {
		for b := range 1 << u {
			for c := range 1 << u {
				out = append(out, api.World{Things: u, Has: [3]int{a, b, c}})
			}
		}
	}
	return out
}

// mirror goes the way of a Log, with records as numbers of bytes, and the worlds one by one.
type mirror struct {
	worlds  []api.World
	forms   map[said]api.Form
	all     []said
	lengths []int
	half    int
	safe    int
	fail    int
	stopped bool
}

// holds tells whether in one of the worlds all that was said does, and this.
func (m *mirror) holds(t *testing.T, more said) bool {
	t.Helper()
	return slices.ContainsFunc(m.worlds, func(w api.World) bool {
		return !slices.ContainsFunc(append(slices.Clone(m.all), more), func(s said) bool {
			is, err := form.Holds(m.forms[s], w)
			if err != nil {
				t.Fatalf("Holds(%q): got %v", s, err)
			}
			return !is
		})
	})
}

// say is what is to be told of a Say, whose record has so many bytes.
func (m *mirror) say(t *testing.T, s said, length int) api.Errno {
	t.Helper()
	switch {
	case m.stopped:
		return api.ErrState
	case len(m.all) == maxForms:
		return api.ErrFull
	case !m.holds(t, s):
		return api.ErrClash
	case m.fail == 0:
		m.half, m.stopped = length/2, true
		return api.ErrState
	}
	m.fail = max(m.fail-1, -1)
	m.all, m.lengths = append(m.all, s), append(m.lengths, length)
	return api.OK
}

// sync is what is to be told of a Sync.
func (m *mirror) sync() api.Errno {
	if m.stopped || m.fail == 0 {
		m.stopped = true
		return api.ErrState
	}
	m.fail = max(m.fail-1, -1)
	m.safe = m.bytes()
	return api.OK
}

// crash cuts off records until what is left is no more than may be.
func (m *mirror) crash(keep int) {
	for m.half = 0; m.bytes() > m.safe+max(keep, 0); {
		last := len(m.all) - 1
		m.all, m.lengths = m.all[:last], m.lengths[:last]
	}
	m.safe, m.fail, m.stopped = m.bytes(), -1, false
}

// bytes that there are.
func (m *mirror) bytes() int {
	many := m.half
	for _, length := range m.lengths {
		many += length
	}
	return many
}

// recordLength is how many bytes the record of it has.
func recordLength(t *testing.T, s said) int {
	t.Helper()
	its, holds := s.parts(t)
	for u := range maxThings + 1 {
		l := made(t, u)
		if l.Say(its, holds) == nil {
			return l.Bytes()
		}
	}
	// It never holds, so that no record of it is ever made.
	return 0
}

// TestPlayed: many calls, one behind the other, against the mirror.
func TestPlayed(t *testing.T) {
	lengths, forms := map[said]int{}, map[said]api.Form{}
	for _, s := range pool {
		lengths[s], forms[s] = recordLength(t, s), s.form(t)
	}
	choose, told := chooser(), map[api.Errno]int{}
	for range 400 {
		u := choose(4)
		l, m := made(t, u), &mirror{worlds: every(u), forms: forms, fail: -1}
		for range 40 {
			switch choose(12) {
			case 0:
				m.fail = choose(9) - 1
				l.Fail(m.fail)
			case 1:
				keep := choose(60) - 5
				m.crash(keep)
				l.Crash(keep)
			case 2, 3:
				want := m.sync()
				sync(t, l, want)
				told[want]++
			default:
				s := pool[choose(len(pool))]
				want := m.say(t, s, lengths[s])
				say(t, l, want, s)
				told[want]++
			}
			is(t, l, m.bytes(), m.safe, m.all...)
		}
		if t.Failed() {
			return
		}
	}
	for _, e := range []api.Errno{api.OK, api.ErrState, api.ErrClash, api.ErrFull} {
		if told[e] < 50 {
			t.Errorf("too few of %v: %v", e, told)
		}
	}
}
