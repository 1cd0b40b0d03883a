package sets

import (
	"math"
	"testing"

	"vennhouse/api"
	"vennhouse/plain"
)

// The numbers as chapter 1 writes them, so that the names in api are held against it, too.
const (
	maxThings = 6
	union     = 5
	meet      = 6
	less      = 7
	not       = 8
)

// far are numbers that are wrong wherever they stand, and at which a shift or a sum would go astray.
var far = []int{
	math.MinInt, math.MinInt + 1, -1 << 32, -65, -64, -63, -7, -2, -1,
	64, 65, 127, 128, 255, 256, 1 << 31, 1 << 32, 1 << 62, math.MaxInt - 1, math.MaxInt,
}

// powers is 2^0 to 2^6, written out: how many sets there are of so many things.
var powers = [maxThings + 1]int{1, 2, 4, 8, 16, 32, 64}

// members of a set, by taking away the greatest powers first.
func members(s int) (in [maxThings]bool) {
	for i := maxThings - 1; i >= 0; i-- {
		if s >= powers[i] {
			in[i] = true
			s -= powers[i]
		}
	}
	return in
}

// number of a set, by adding up.
func number(in [maxThings]bool) (s int) {
	for i, is := range in {
		if is {
			s += powers[i]
		}
	}
	return s
}

// wantDo is what the chapter says of two sets, thing by thing.
func wantDo(what, u, a, b int) int {
	x, y := members(a), members(b)
	var z [maxThings]bool
	for i := range u {
		switch what {
		case union:
			z[i] = x[i] || y[i]
		case meet:
			z[i] = x[i] && y[i]
		case less:
			z[i] = x[i] && !y[i]
		case not:
			z[i] = !x[i]
		}
	}
	return number(z)
}

func askCheck(t *testing.T, u, s int, want api.Errno) {
	t.Helper()
	if got := plain.Told(Check(u, s)); got != want {
		t.Errorf("Check(%d, %d): got %v, want %v", u, s, got, want)
	}
}

func askDo(t *testing.T, what, u, a, b, want int, wrong api.Errno) {
	t.Helper()
	got, err := Do(what, u, a, b)
	if got != want || plain.Told(err) != wrong {
		t.Errorf("Do(%d, %d, %d, %d): got %d %v, want %d %v", what, u, a, b, got, plain.Told(err), want, wrong)
	}
}

func askSize(t *testing.T, u, s, want int, wrong api.Errno) {
	t.Helper()
	got, err := Size(u, s)
	if got != want || plain.Told(err) != wrong {
		t.Errorf("Size(%d, %d): got %d %v, want %d %v", u, s, got, plain.Told(err), want, wrong)
	}
}

func askHas(t *testing.T, u, s, i int, want bool, wrong api.Errno) {
	t.Helper()
	got, err := Has(u, s, i)
	if got != want || plain.Told(err) != wrong {
		t.Errorf("Has(%d, %d, %d): got %v %v, want %v %v", u, s, i, got, plain.Told(err), want, wrong)
	}
}

// askWrong asks every call of a set that is none: ErrRange, and nothing beside it.
func askWrong(t *testing.T, u, s int) {
	t.Helper()
	askCheck(t, u, s, api.ErrRange)
	askSize(t, u, s, 0, api.ErrRange)
	for _, i := range []int{-1, 0, 1, 5, 6, math.MinInt, math.MaxInt} {
		askHas(t, u, s, i, false, api.ErrRange)
	}
	for what := union - 1; what <= not+1; what++ {
		askDo(t, what, u, s, s, 0, api.ErrRange)
		askDo(t, what, u, s, 0, 0, api.ErrRange)
		askDo(t, what, u, 0, s, 0, api.ErrRange)
	}
}

func TestNumbersOfTheChapter(t *testing.T) {
	got := [...]int{api.MaxThings, api.Union, api.Meet, api.Less, api.Not}
	want := [...]int{maxThings, union, meet, less, not}
	if got != want {
		t.Errorf("numbers: got %v, want %v", got, want)
	}
	if api.OK != 0 || api.ErrRange != 1 {
		t.Errorf("errors: got %d and %d, want 0 and 1", api.OK, api.ErrRange)
	}
}

// TestErrorIsNil: where nothing is wrong the error is nil, not an OK in an error.
func TestErrorIsNil(t *testing.T) {
	if err := Check(3, 5); err != nil {
		t.Errorf("Check: got %v", err)
	}
	if _, err := Do(union, 3, 5, 2); err != nil {
		t.Errorf("Do: got %v", err)
	}
	if _, err := Size(3, 5); err != nil {
		t.Errorf("Size: got %v", err)
	}
	if _, err := Has(3, 5, 2); err != nil {
		t.Errorf("Has: got %v", err)
	}
}

func TestCheckOfEverySet(t *testing.T) {
	for u, many := range powers {
		for s := range many {
			askCheck(t, u, s, api.OK)
		}
	}
}

func TestWrongSet(t *testing.T) {
	for u, many := range powers {
		askWrong(t, u, -1)
		for s := many; s <= 2*powers[maxThings]; s++ {
			askWrong(t, u, s)
		}
		for _, s := range far {
			askWrong(t, u, s)
		}
	}
}

func TestWrongNumberOfThings(t *testing.T) {
	for _, u := range append([]int{-1, maxThings + 1, maxThings + 2, 62, 63}, far...) {
		for _, s := range append([]int{0, 1, 2, 63}, far...) {
			askWrong(t, u, s)
		}
	}
}

func TestDoByHand(t *testing.T) {
	for _, c := range []struct{ what, u, a, b, want int }{
		{union, 4, 0b0011, 0b0101, 0b0111},
		{meet, 4, 0b0011, 0b0101, 0b0001},
		{less, 4, 0b0011, 0b0101, 0b0010},
		{less, 4, 0b0101, 0b0011, 0b0100},
		{not, 4, 0b0011, 0b0101, 0b1100},
		{not, 6, 0, 63, 63},
		{not, 6, 63, 0, 0},
		{union, 6, 42, 21, 63},
		{meet, 6, 42, 21, 0},
		{less, 6, 63, 63, 0},
		{union, 0, 0, 0, 0},
		{meet, 0, 0, 0, 0},
		{less, 0, 0, 0, 0},
		{not, 0, 0, 0, 0},
		{not, 1, 0, 0, 1},
	} {
		askDo(t, c.what, c.u, c.a, c.b, c.want, api.OK)
	}
}

func TestDoOfAllSets(t *testing.T) {
	for u, many := range powers {
		for a := range many {
			for b := range many {
				for what := union; what <= not; what++ {
					askDo(t, what, u, a, b, wantDo(what, u, a, b), api.OK)
				}
			}
		}
	}
}

// TestNotLeavesTheSecond: which set the second one is does not matter, but that it is one does.
func TestNotLeavesTheSecond(t *testing.T) {
	for u, many := range powers {
		for b := range many {
			askDo(t, not, u, 0, b, many-1, api.OK)
		}
		askDo(t, not, u, 0, -1, 0, api.ErrRange)
		askDo(t, not, u, 0, many, 0, api.ErrRange)
		for _, b := range far {
			askDo(t, not, u, 0, b, 0, api.ErrRange)
		}
	}
}

func TestDoWhatIsNone(t *testing.T) {
	signs := []int{api.A, api.B, api.C, api.Empty, api.All, not + 1, api.And, api.Or, api.No, api.Then}
	for u, many := range powers {
		for _, what := range append(signs, far...) {
			askDo(t, what, u, 0, 0, 0, api.ErrRange)
			askDo(t, what, u, many-1, many-1, 0, api.ErrRange)
			askDo(t, what, u, many, 0, 0, api.ErrRange)
			askDo(t, what, u, 0, many, 0, api.ErrRange)
		}
	}
}

func TestSizeOfEverySet(t *testing.T) {
	for u, many := range powers {
		for s := range many {
			want := 0
			for _, is := range members(s) {
				if is {
					want++
				}
			}
			askSize(t, u, s, want, api.OK)
		}
		askSize(t, u, many-1, u, api.OK)
	}
}

func TestHasOfEverySet(t *testing.T) {
	for u, many := range powers {
		for s := range many {
			in := members(s)
			for i := range u {
				askHas(t, u, s, i, in[i], api.OK)
			}
		}
	}
}

func TestHasNoSuchThing(t *testing.T) {
	for u, many := range powers {
		for s := range many {
			askHas(t, u, s, -1, false, api.ErrRange)
			askHas(t, u, s, u, false, api.ErrRange)
			askHas(t, u, s, u+1, false, api.ErrRange)
		}
		for _, i := range far {
			askHas(t, u, many-1, i, false, api.ErrRange)
		}
	}
}
