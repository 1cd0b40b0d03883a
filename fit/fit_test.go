package fit

import (
	"math"
	"slices"
	"testing"

	"vennhouse/api"
	"vennhouse/atom"
	"vennhouse/fields"
	"vennhouse/plain"
	"vennhouse/rows"
)

// The numbers as chapters 6, 7 and 8 and package api write them, so that the names are held against them, too.
const (
	cells     = 8
	maxThings = 6
	maxRows   = 12
)

// counts of things in each field.
type counts = [cells]int

// howMany counts there are of 0 to 6 things.
var howMany = [maxThings + 1]int{1, 8, 36, 120, 330, 792, 1716}

// wrongThings are numbers of things that are none.
var wrongThings = []int{
	-1, -2, -6, 7, 8, 9, 62, 63, 64, 1 << 31, 1 << 32, 1 << 62, -1 << 32,
	math.MinInt, math.MinInt + 1, math.MinInt + 6, math.MaxInt - 1, math.MaxInt,
}

// wrongRows are rows that are none.
var wrongRows = []api.Row{
	{Times: counts{3}}, {Times: counts{-3}}, {Times: counts{7: 3}}, {Times: counts{7: -3}}, {Times: counts{0, 0, 0, 3, -3}},
	{Times: counts{math.MaxInt}}, {Times: counts{7: math.MinInt}}, {Times: counts{2: 1 << 32}, Most: 100},
	{Most: 101}, {Most: -101}, {Most: math.MaxInt}, {Most: math.MinInt}, {Times: counts{2, 2}, Most: 1 << 32},
}

// wrongCounts are counts that are none, and what chapter 6 says of them.
var wrongCounts = []struct {
	n     counts
	wrong api.Errno
}{
	{counts{7}, api.ErrRange},
	{counts{-1}, api.ErrRange},
	{counts{7: 7}, api.ErrRange},
	{counts{7: -1}, api.ErrRange},
	{counts{7, -1}, api.ErrRange},
	{counts{6, 1, 0, 0, 0, 0, 0, -1}, api.ErrRange},
	{counts{-1, 1}, api.ErrRange},
	{counts{0, 0, 0, 2, -2, 3}, api.ErrRange},
	{counts{math.MaxInt, math.MinInt, 1}, api.ErrRange},
	{counts{math.MinInt, math.MinInt}, api.ErrRange},
	{counts{6, 1}, api.ErrFull},
	{counts{0, 0, 0, 0, 0, 0, 1, 6}, api.ErrFull},
	{counts{1, 1, 1, 1, 1, 1, 1, 0}, api.ErrFull},
	{counts{1, 1, 1, 1, 1, 1, 1, 1}, api.ErrFull},
	{counts{6, 6, 6, 6, 6, 6, 6, 6}, api.ErrFull},
}

// lists of rows of all kinds: none, such that fit always, at times, at some numbers of things, and never.
var lists = [][]api.Row{
	nil,
	{},
	{{}},
	{{Most: 100}},
	{{Most: -1}},
	{{Most: -100}},
	{{Times: counts{1}}},
	{{Times: counts{7: 1}}},
	{{Times: counts{7: 2}, Most: 3}},
	{{Times: counts{-1}, Most: -2}},
	{{Times: counts{-2}, Most: -3}, {Times: counts{7: 1}}},
	{{Times: counts{1, 1, 1, 1, 1, 1, 1, 1}, Most: 4}},
	{{Times: counts{-1, -1, -1, -1, -1, -1, -1, -1}, Most: -3}},
	{{Times: counts{2, 2, 2, 2, 2, 2, 2, 2}, Most: 12}, {Times: counts{-2, -2, -2, -2, -2, -2, -2, -2}, Most: -12}},
	{{Times: counts{1, -1, 1, -1, 1, -1, 1, -1}}, {Times: counts{-1, 1, -1, 1, -1, 1, -1, 1}}},
	{{Times: counts{2, -2, 1, -1, 0, 2, -2, 1}, Most: 1}, {Times: counts{-2, 0, 2, 1, -1, 1, 2, -1}}},
	{{Times: counts{0, 1, -2, 0, 1, 0, -1, 2}, Most: -1}, {Times: counts{1, 1, 1, -2, 0, 0, 0, 1}, Most: 2}, {Times: counts{0, 0, 0, 0, 2, -1, -1, 1}, Most: -2}},
	{{}, {}, {}, {}, {}, {}, {}, {}, {}, {}, {}, {Times: counts{0, 0, 0, 0, 0, 1, 1, 1}}},
	{{Times: counts{0, 0, 0, 0, 0, 1, 1, 1}}, {}, {}, {}, {}, {}, {}, {}, {}, {}, {}, {Times: counts{0, 0, -1}, Most: -1}},
}

// inOrder are all counts of u things, in the order of the chapter: of all ways to fill eight fields those that are u together, sorted.
func inOrder(t *testing.T, u int) (out []counts) {
	t.Helper()
	var fill func(n counts, field, left int)
	fill = func(n counts, field, left int) {
		if field == cells {
			if left == 0 {
				out = append(out, n)
			}
			return
		}
		for k := left; k >= 0; k-- {
			n[field] = k
			fill(n, field+1, left-k)
		}
	}
	fill(counts{}, 0, u)
	slices.SortFunc(out, func(a, b counts) int { return slices.Compare(a[:], b[:]) })
	if len(out) != howMany[u] {
		t.Fatalf("counts of %d things: got %d, want %d", u, len(out), howMany[u])
	}
	return out
}

// isSo tells of right rows and right counts, thing by thing, whether all are so.
func isSo(l []api.Row, n counts) bool {
	for _, r := range l {
		left := r.Most
		for field, many := range n {
			for range many {
				left -= r.Times[field]
			}
		}
		if left < 0 {
			return false
		}
	}
	return true
}

// justThese are rows that these counts fit, and no others of as many things.
func justThese(n counts) (l []api.Row) {
	for field, many := range n {
		r := api.Row{Most: many}
		r.Times[field] = 1
		l = append(l, r)
	}
	return l
}

func askLeast(t *testing.T, u int, l []api.Row, want counts, wrong api.Errno) {
	t.Helper()
	got, err := Least(u, l)
	if got != want || plain.Told(err) != wrong {
		t.Errorf("Least(%d, %v): got %v %v, want %v %v", u, l, got, plain.Told(err), want, wrong)
	}
}

func askMany(t *testing.T, u int, l []api.Row, want int, wrong api.Errno) {
	t.Helper()
	got, err := Many(u, l)
	if got != want || plain.Told(err) != wrong {
		t.Errorf("Many(%d, %v): got %d %v, want %d %v", u, l, got, plain.Told(err), want, wrong)
	}
}

// askWrong asks for an error of both that go by rows.
func askWrong(t *testing.T, u int, l []api.Row, wrong api.Errno) {
	t.Helper()
	askLeast(t, u, l, counts{}, wrong)
	askMany(t, u, l, 0, wrong)
}

func askNext(t *testing.T, u int, n, want counts, wrong api.Errno) {
	t.Helper()
	got, err := Next(u, n)
	if got != want || plain.Told(err) != wrong {
		t.Errorf("Next(%d, %v): got %v %v, want %v %v", u, n, got, plain.Told(err), want, wrong)
	}
}

func TestNumbersOfTheChapter(t *testing.T) {
	got := [...]int{api.Fields, api.MaxThings, api.MaxRows}
	want := [...]int{cells, maxThings, maxRows}
	if got != want {
		t.Errorf("numbers: got %v, want %v", got, want)
	}
}

// TestErrorIsNil: where nothing is wrong the error is nil, not an OK in an error.
func TestErrorIsNil(t *testing.T) {
	if _, err := Least(0, nil); err != nil {
		t.Errorf("Least: got %v", err)
	}
	for _, most := range []int{-1, 1} {
		if _, err := Many(0, []api.Row{{Most: most}}); err != nil {
			t.Errorf("Many: got %v", err)
		}
	}
	if _, err := Next(1, counts{7: 1}); err != nil {
		t.Errorf("Next: got %v", err)
	}
}

func TestNextByHand(t *testing.T) {
	for _, c := range []struct {
		u       int
		n, want counts
	}{
		{1, counts{0, 0, 0, 0, 0, 0, 0, 1}, counts{0, 0, 0, 0, 0, 0, 1, 0}},
		{1, counts{0, 0, 0, 0, 0, 0, 1, 0}, counts{0, 0, 0, 0, 0, 1, 0, 0}},
		{1, counts{0, 1, 0, 0, 0, 0, 0, 0}, counts{1, 0, 0, 0, 0, 0, 0, 0}},
		{2, counts{0, 0, 0, 0, 0, 0, 0, 2}, counts{0, 0, 0, 0, 0, 0, 1, 1}},
		{2, counts{0, 0, 0, 0, 0, 0, 1, 1}, counts{0, 0, 0, 0, 0, 0, 2, 0}},
		{2, counts{0, 0, 0, 0, 0, 0, 2, 0}, counts{0, 0, 0, 0, 0, 1, 0, 1}},
		{2, counts{0, 2, 0, 0, 0, 0, 0, 0}, counts{1, 0, 0, 0, 0, 0, 0, 1}},
		{2, counts{1, 1, 0, 0, 0, 0, 0, 0}, counts{2, 0, 0, 0, 0, 0, 0, 0}},
		{6, counts{0, 0, 0, 0, 0, 0, 0, 6}, counts{0, 0, 0, 0, 0, 0, 1, 5}},
		{6, counts{0, 0, 0, 0, 0, 0, 6, 0}, counts{0, 0, 0, 0, 0, 1, 0, 5}},
		{6, counts{0, 6, 0, 0, 0, 0, 0, 0}, counts{1, 0, 0, 0, 0, 0, 0, 5}},
		{6, counts{5, 1, 0, 0, 0, 0, 0, 0}, counts{6, 0, 0, 0, 0, 0, 0, 0}},
		{6, counts{1, 0, 3, 0, 2, 0, 0, 0}, counts{1, 0, 3, 1, 0, 0, 0, 1}},
	} {
		askNext(t, c.u, c.n, c.want, api.OK)
	}
}

// TestNextOfAllCounts: from the first to the last, each behind the one ahead of it, and none behind the last.
func TestNextOfAllCounts(t *testing.T) {
	for u := range maxThings + 1 {
		list := inOrder(t, u)
		for i, n := range list[1:] {
			askNext(t, u, list[i], n, api.OK)
		}
		last := counts{u}
		if list[len(list)-1] != last {
			t.Fatalf("last of %d things: got %v", u, list[len(list)-1])
		}
		askNext(t, u, last, counts{}, api.ErrNone)
	}
}

// TestNextNotTogether: right counts of any other number of things are told so, also where there would be none behind.
func TestNextNotTogether(t *testing.T) {
	for u := range maxThings + 1 {
		for other := range maxThings + 1 {
			if other == u {
				continue
			}
			for _, n := range inOrder(t, other) {
				askNext(t, u, n, counts{}, api.ErrShape)
			}
		}
	}
}

// TestNextWrong: things go ahead of counts, and these ahead of how many they are together.
func TestNextWrong(t *testing.T) {
	for _, u := range wrongThings {
		for _, n := range []counts{{}, {6}, {7: 6}, {1, 1, 1, 1, 1, 1}} {
			askNext(t, u, n, counts{}, api.ErrRange)
		}
		askNext(t, u, counts{u}, counts{}, api.ErrRange)
		for _, c := range wrongCounts {
			askNext(t, u, c.n, counts{}, api.ErrRange)
		}
	}
	for u := range maxThings + 1 {
		for _, c := range wrongCounts {
			askNext(t, u, c.n, counts{}, c.wrong)
		}
	}
}

// TestAll: all counts in order, the same ones again, and none of wrong things.
func TestAll(t *testing.T) {
	for u := range maxThings + 1 {
		counted := All(u)
		for range 2 {
			if got := slices.Collect(counted); !slices.Equal(got, inOrder(t, u)) {
				t.Errorf("All(%d): got %v", u, got)
			}
		}
	}
	for _, u := range wrongThings {
		for n := range All(u) {
			t.Fatalf("All(%d): got %v, want none", u, n)
		}
	}
}

// TestAllLeft: who goes over them may leave at any of them.
func TestAllLeft(t *testing.T) {
	for u := range maxThings + 1 {
		list := inOrder(t, u)
		for last := range list {
			var got []counts
			for n := range All(u) {
				got = append(got, n)
				if len(got) == last+1 {
					break
				}
			}
			if !slices.Equal(got, list[:last+1]) {
				t.Fatalf("All(%d), left at %d: got %v", u, last, got)
			}
		}
	}
}

func TestLeastAndManyByHand(t *testing.T) {
	for _, c := range []struct {
		u    int
		l    []api.Row
		want counts
		many int
	}{
		{0, nil, counts{}, 1},
		{1, nil, counts{7: 1}, 8},
		{6, nil, counts{7: 6}, 1716},
		// No thing in C: 3 things in 4 fields.
		{3, []api.Row{{Times: counts{0, 0, 0, 0, 1, 1, 1, 1}}}, counts{0, 0, 0, 3}, 20},
		// Two at least outside of all: one more in one of 8.
		{3, []api.Row{{Times: counts{-1}, Most: -2}}, counts{2, 0, 0, 0, 0, 0, 0, 1}, 8},
		// All of them outside.
		{6, []api.Row{{Times: counts{-1}, Most: -6}}, counts{6}, 1},
		{6, []api.Row{{Times: counts{-2}, Most: -11}}, counts{6}, 1},
		// At most one in each of the last two.
		{2, []api.Row{{Times: counts{7: 1}, Most: 1}, {Times: counts{6: 1}, Most: 1}}, counts{6: 1, 7: 1}, 34},
		{2, []api.Row{{Times: counts{7: 2}, Most: 1}, {Times: counts{6: 1}, Most: 1}}, counts{5: 1, 6: 1}, 27},
		// Half in A.
		{2, []api.Row{{Times: counts{1, -1, 1, -1, 1, -1, 1, -1}}, {Times: counts{-1, 1, -1, 1, -1, 1, -1, 1}}}, counts{6: 1, 7: 1}, 16},
		{0, []api.Row{{Times: counts{2, 2, 2, 2, 2, 2, 2, 2}}}, counts{}, 1},
	} {
		askLeast(t, c.u, c.l, c.want, api.OK)
		askMany(t, c.u, c.l, c.many, api.OK)
	}
}

// TestNoneFits: Least tells it, and Many says 0, without an error.
func TestNoneFits(t *testing.T) {
	for u := range maxThings + 1 {
		for _, l := range [][]api.Row{
			{{Most: -1}},
			{{}, {Most: -100}, {}},
			{{Times: counts{1, 1, 1, 1, 1, 1, 1, 1}, Most: u - 1}},
			{{Times: counts{-1, -1, -1, -1, -1, -1, -1, -1}, Most: -u - 1}},
			{{Times: counts{-2, -2, -2, -2, -2, -2, -2, -2}, Most: -13}},
			{{Times: counts{0, 1}}, {Times: counts{0, -1}, Most: -1}},
		} {
			askLeast(t, u, l, counts{}, api.ErrNone)
			askMany(t, u, l, 0, api.OK)
		}
	}
	half := []api.Row{{Times: counts{1, -1, 1, -1, 1, -1, 1, -1}}, {Times: counts{-1, 1, -1, 1, -1, 1, -1, 1}}}
	for _, u := range []int{1, 3, 5} {
		askLeast(t, u, half, counts{}, api.ErrNone)
		askMany(t, u, half, 0, api.OK)
	}
}

// TestLists: against all counts in order.
func TestLists(t *testing.T) {
	for u := range maxThings + 1 {
		all := inOrder(t, u)
		for _, l := range lists {
			var fit []counts
			for _, n := range all {
				if isSo(l, n) {
					fit = append(fit, n)
				}
			}
			askMany(t, u, l, len(fit), api.OK)
			if len(fit) == 0 {
				askLeast(t, u, l, counts{}, api.ErrNone)
				continue
			}
			askLeast(t, u, l, fit[0], api.OK)
		}
	}
}

// TestEachCanBeLeast: wherever the only counts stand that fit.
func TestEachCanBeLeast(t *testing.T) {
	for u := range maxThings + 1 {
		for _, n := range inOrder(t, u) {
			askLeast(t, u, justThese(n), n, api.OK)
			askMany(t, u, justThese(n), 1, api.OK)
		}
	}
}

// TestAtoms: in the World of the least that fit an atom's row the atom holds; those that fit it and those that fit the other row are all.
func TestAtoms(t *testing.T) {
	for _, text := range []string{
		"sub A B", "same AB+ C", "same 0 1", "least AB* 2", "least 1 4", "most C 1", "most 1 3", "nomore A B -1", "nomore C AB- 0", "nomore 0 1 -5",
	} {
		a, err := atom.Parse(text)
		if err != nil {
			t.Fatalf("Parse(%q): got %v", text, err)
		}
		for u := range maxThings + 1 {
			together := 0
			for _, holds := range []bool{true, false} {
				r, err := rows.Of(a, holds)
				if err != nil {
					t.Fatalf("Of(%q): got %v", text, err)
				}
				many, err := Many(u, []api.Row{r})
				if err != nil {
					t.Fatalf("Many(%d, %q): got %v", u, text, err)
				}
				together += many
				askHolds(t, u, r, a, holds, many > 0)
			}
			if together != howMany[u] {
				t.Errorf("%q, %d things: got %d together, want %d", text, u, together, howMany[u])
			}
		}
	}
}

// askHolds asks whether an atom holds, or does not, in the World of the least that fit a row, if there are any.
func askHolds(t *testing.T, u int, r api.Row, a api.Atom, holds, some bool) {
	t.Helper()
	n, err := Least(u, []api.Row{r})
	if !some {
		if plain.Told(err) != api.ErrNone {
			t.Errorf("Least(%d, %v): got %v, want none", u, r, plain.Told(err))
		}
		return
	}
	w, bad := fields.World(n)
	if err != nil || bad != nil || w.Things != u {
		t.Fatalf("Least(%d, %v): got %v, %v and %v", u, r, n, err, bad)
	}
	if is, err := atom.Holds(a, w); err != nil || is != holds {
		t.Errorf("Holds(%v, %v): got %t %v, want %t", a, w, is, err, holds)
	}
}

// TestWrongThings: told ahead of what is wrong with the rows, and with none.
func TestWrongThings(t *testing.T) {
	for _, u := range wrongThings {
		for _, l := range lists {
			askWrong(t, u, l, api.ErrRange)
		}
		askWrong(t, u, make([]api.Row, maxRows+1), api.ErrRange)
		askWrong(t, u, wrongRows, api.ErrRange)
	}
}

// TestFull: twelve rows are not too many, and thirteen are, whatever they are.
func TestFull(t *testing.T) {
	for u := range maxThings + 1 {
		askLeast(t, u, make([]api.Row, maxRows), counts{7: u}, api.OK)
		askMany(t, u, make([]api.Row, maxRows), howMany[u], api.OK)
		askWrong(t, u, make([]api.Row, maxRows+1), api.ErrFull)
		askWrong(t, u, slices.Repeat([]api.Row{{Most: -1}}, maxRows+1), api.ErrFull)
		askWrong(t, u, slices.Repeat([]api.Row{{Most: 101}}, maxRows+1), api.ErrFull)
		askWrong(t, u, make([]api.Row, 1<<16), api.ErrFull)
	}
}

// TestWrongRow: wherever in a list it stands, and ahead of that none fits.
func TestWrongRow(t *testing.T) {
	for u := range maxThings + 1 {
		for _, r := range wrongRows {
			askWrong(t, u, []api.Row{r}, api.ErrRange)
			askWrong(t, u, []api.Row{{Most: -1}, r}, api.ErrRange)
			askWrong(t, u, []api.Row{r, {Most: -1}}, api.ErrRange)
			for place := range maxRows {
				l := make([]api.Row, maxRows)
				l[place] = r
				askWrong(t, u, l, api.ErrRange)
			}
		}
		for _, most := range []int{-100, 100} {
			for _, times := range []int{-2, 2} {
				r := api.Row{Times: counts{times, times, times, times, times, times, times, times}, Most: most}
				many := 0
				if most > 0 {
					many = howMany[u]
				}
				askMany(t, u, []api.Row{r}, many, api.OK)
			}
		}
	}
}

// TestNothingIsWritten: into a list that is handed in, or what lies behind it; and that is not read.
func TestNothingIsWritten(t *testing.T) {
	l := append(slices.Repeat([]api.Row{{Times: counts{7: 1}, Most: 1}}, 3), api.Row{Most: -1}, api.Row{Most: 999}, api.Row{Times: counts{9}})
	keep := slices.Clone(l)
	for many := range len(l) + 1 {
		for u := -1; u <= maxThings+1; u++ {
			Least(u, l[:many])
			Many(u, l[:many])
			if !slices.Equal(l, keep) {
				t.Fatalf("%d rows: got %v, want %v", many, l, keep)
			}
		}
	}
	askLeast(t, 2, l[:3], counts{6: 1, 7: 1}, api.OK)
	askMany(t, 2, l[:3], 35, api.OK)
	askLeast(t, 2, l[:0], counts{7: 2}, api.OK)
	askMany(t, 2, l[:4], 0, api.OK)
	askWrong(t, 2, l[:5], api.ErrRange)
}

// TestSameAgain: what is answered does not hang on calls before, nor on that one of them was wrong.
func TestSameAgain(t *testing.T) {
	for range 3 {
		askMany(t, 4, lists[6], 210, api.OK)
		askWrong(t, 7, lists[6], api.ErrRange)
		askLeast(t, 4, lists[7], counts{6: 4}, api.OK)
		askNext(t, 4, counts{6: 4}, counts{5: 1, 7: 3}, api.OK)
		askNext(t, 4, counts{4}, counts{}, api.ErrNone)
	}
}
