package term

import (
	"math"
	"slices"
	"strings"
	"testing"

	"vennhouse/api"
	"vennhouse/plain"
)

// The numbers and bytes as chapter 2 writes them, so that the names in api are held against it, too.
const (
	maxThings = 6
	maxTerm   = 12
	signs     = 9
)

var spelt = map[int]byte{0: 'A', 1: 'B', 2: 'C', 3: '0', 4: '1', 5: '+', 6: '*', 7: '-', 8: '~'}

// far are numbers that are wrong wherever they stand.
var far = []int{
	math.MinInt, math.MinInt + 1, -1 << 32, -256, -2, -1,
	9, 10, 11, 12, 13, 64, 255, 256, 1 << 32, math.MaxInt - 1, math.MaxInt,
}

// behind reads one term that ends at the end of t, from behind, and gives what is left ahead of it.
func behind(t []int) (rest []int, ok bool) {
	if len(t) == 0 {
		return nil, false
	}
	last, rest := t[len(t)-1], t[:len(t)-1]
	parts := 0
	if last >= 5 && last <= 7 {
		parts = 2
	} else if last == 8 {
		parts = 1
	}
	for range parts {
		if rest, ok = behind(rest); !ok {
			return nil, false
		}
	}
	return rest, true
}

// wantCheck is what the chapter says of a row of signs.
func wantCheck(t []int) api.Errno {
	if len(t) == 0 {
		return api.ErrNone
	}
	if len(t) > maxTerm {
		return api.ErrFull
	}
	for _, s := range t {
		if s < 0 || s > 8 {
			return api.ErrRange
		}
	}
	if rest, ok := behind(t); !ok || len(rest) > 0 {
		return api.ErrShape
	}
	return api.OK
}

// has tells whether the term at the end of t has a thing, of which it is known which names have it; and gives what is left.
func has(t []int, names [3]bool) (is bool, rest []int) {
	last, rest := t[len(t)-1], t[:len(t)-1]
	switch last {
	case 0, 1, 2:
		return names[last], rest
	case 3:
		return false, rest
	case 4:
		return true, rest
	case 8:
		is, rest = has(rest, names)
		return !is, rest
	}
	second, rest := has(rest, names)
	first, rest := has(rest, names)
	switch last {
	case 5:
		return first || second, rest
	case 6:
		return first && second, rest
	}
	return first && !second, rest
}

// wantValue is the set of a right term in a right world, thing by thing.
func wantValue(t []int, w api.World) (set int) {
	power := 1
	for range w.Things {
		var names [3]bool
		for n, s := range w.Has {
			names[n] = s/power%2 == 1
		}
		if is, _ := has(t, names); is {
			set += power
		}
		power *= 2
	}
	return set
}

// rows of signs of a length: all of them.
func rows(length int, do func(t []int)) {
	many := 1
	for range length {
		many *= signs
	}
	for k := range many {
		t := make([]int, length)
		for i := range t {
			t[i] = k % signs
			k /= signs
		}
		do(t)
	}
}

// written is a row of right signs as bytes.
func written(t []int) string {
	var b []byte
	for _, s := range t {
		b = append(b, spelt[s])
	}
	return string(b)
}

func askCheck(t *testing.T, row []int, want api.Errno) {
	t.Helper()
	if got := plain.Told(Check(row)); got != want {
		t.Errorf("Check(%v): got %v, want %v", row, got, want)
	}
}

func askValue(t *testing.T, row []int, w api.World, want int, wrong api.Errno) {
	t.Helper()
	got, err := Value(row, w)
	if got != want || plain.Told(err) != wrong {
		t.Errorf("Value(%v, %v): got %d %v, want %d %v", row, w, got, plain.Told(err), want, wrong)
	}
}

func askPrint(t *testing.T, row []int, want string, wrong api.Errno) {
	t.Helper()
	got, err := Print(row)
	if got != want || plain.Told(err) != wrong {
		t.Errorf("Print(%v): got %q %v, want %q %v", row, got, plain.Told(err), want, wrong)
	}
}

func askParse(t *testing.T, text string, want []int, wrong api.Errno) {
	t.Helper()
	got, err := Parse(text)
	if !slices.Equal(got, want) || plain.Told(err) != wrong {
		t.Errorf("Parse(%.40q): got %v %v, want %v %v", text, got, plain.Told(err), want, wrong)
	}
}

// askWrong asks every call of a row that is no term; also in a world that is none: what is wrong with the term is told first.
func askWrong(t *testing.T, row []int, wrong api.Errno) {
	t.Helper()
	askCheck(t, row, wrong)
	askPrint(t, row, "", wrong)
	askValue(t, row, api.World{Things: 3, Has: [3]int{1, 2, 4}}, 0, wrong)
	askValue(t, row, api.World{Things: -1}, 0, wrong)
	askValue(t, row, api.World{Things: 3, Has: [3]int{8, -1, 4}}, 0, wrong)
}

func TestNumbersOfTheChapter(t *testing.T) {
	got := [...]int{api.A, api.B, api.C, api.Empty, api.All, api.Union, api.Meet, api.Less, api.Not, api.MaxTerm, api.Names, api.MaxThings}
	want := [...]int{0, 1, 2, 3, 4, 5, 6, 7, 8, 12, 3, 6}
	if got != want {
		t.Errorf("numbers: got %v, want %v", got, want)
	}
}

// TestErrorIsNil: where nothing is wrong the error is nil, not an OK in an error.
func TestErrorIsNil(t *testing.T) {
	if err := Check([]int{0}); err != nil {
		t.Errorf("Check: got %v", err)
	}
	if _, err := Value([]int{0}, api.World{}); err != nil {
		t.Errorf("Value: got %v", err)
	}
	if _, err := Print([]int{0}); err != nil {
		t.Errorf("Print: got %v", err)
	}
	if _, err := Parse("A"); err != nil {
		t.Errorf("Parse: got %v", err)
	}
}

func TestCheckByHand(t *testing.T) {
	for _, c := range []struct {
		row  []int
		want api.Errno
	}{
		{nil, api.ErrNone},
		{[]int{}, api.ErrNone},
		{[]int{0}, api.OK},
		{[]int{1}, api.OK},
		{[]int{2}, api.OK},
		{[]int{3}, api.OK},
		{[]int{4}, api.OK},
		{[]int{5}, api.ErrShape},
		{[]int{8}, api.ErrShape},
		{[]int{9}, api.ErrRange},
		{[]int{-1}, api.ErrRange},
		{[]int{0, 1}, api.ErrShape},
		{[]int{0, 1, 5}, api.OK},
		{[]int{0, 5, 1}, api.ErrShape},
		{[]int{5, 0, 1}, api.ErrShape},
		{[]int{0, 8}, api.OK},
		{[]int{8, 0}, api.ErrShape},
		{[]int{0, 5, 1, 5}, api.ErrShape},
		{[]int{0, 1, 2, 5}, api.ErrShape},
		{[]int{0, 1, 2, 6, 7}, api.OK},
		{[]int{0, 1, 7, 2, 6}, api.OK},
		{[]int{0, 1, 7, 7}, api.ErrShape},
	} {
		askCheck(t, c.row, c.want)
	}
}

// TestAllShortRows: every call, of every row of up to five signs.
func TestAllShortRows(t *testing.T) {
	w := api.World{Things: 6, Has: [3]int{0b001111, 0b110011, 0b010101}}
	for length := range 6 {
		rows(length, func(row []int) {
			wrong := wantCheck(row)
			askCheck(t, row, wrong)
			if wrong != api.OK {
				askParse(t, written(row), nil, wrong)
				askPrint(t, row, "", wrong)
				askValue(t, row, w, 0, wrong)
				return
			}
			askParse(t, written(row), row, api.OK)
			askPrint(t, row, written(row), api.OK)
			askValue(t, row, w, wantValue(row, w), api.OK)
		})
	}
}

// TestLength: twelve signs are not too many, and thirteen are, whatever these are.
func TestLength(t *testing.T) {
	for n := 2; n < 40; n++ {
		nots := append([]int{1}, slices.Repeat([]int{8}, n-1)...)
		names := slices.Repeat([]int{2}, n)
		wild := slices.Repeat([]int{9}, n)
		if n > maxTerm {
			askWrong(t, nots, api.ErrFull)
			askWrong(t, names, api.ErrFull)
			askWrong(t, wild, api.ErrFull)
			askParse(t, written(nots), nil, api.ErrFull)
			askParse(t, written(names), nil, api.ErrFull)
			continue
		}
		askCheck(t, nots, api.OK)
		askPrint(t, nots, "B"+strings.Repeat("~", n-1), api.OK)
		askParse(t, "B"+strings.Repeat("~", n-1), nots, api.OK)
		askWrong(t, names, api.ErrShape)
		askWrong(t, wild, api.ErrRange)
		askParse(t, written(names), nil, api.ErrShape)
	}
}

func TestVeryLong(t *testing.T) {
	askWrong(t, make([]int, 1<<20), api.ErrFull)
	askParse(t, strings.Repeat("A", 1<<20), nil, api.ErrFull)
	askParse(t, strings.Repeat("A", 1<<20)+"a", nil, api.ErrSyntax)
}

// TestWideAndDeep: the longest terms, those that leave most for the end among them.
func TestWideAndDeep(t *testing.T) {
	w := api.World{Things: 5, Has: [3]int{0b10011, 0b01110, 0b11101}}
	for _, text := range []string{
		"ABCABC-----~",
		"ABCABC+*-+*~",
		"AB-C-A-B-C-~",
		"AB+C*1-0+~~~",
		"A~B~C~++~1-~",
		"01-01-01-+*~",
	} {
		row, err := Parse(text)
		if err != nil || written(row) != text {
			t.Fatalf("Parse(%q): got %v %v", text, row, err)
		}
		askPrint(t, row, text, api.OK)
		askValue(t, row, w, wantValue(row, w), api.OK)
	}
}

func TestSignThatIsNone(t *testing.T) {
	for _, s := range far {
		askWrong(t, []int{s}, api.ErrRange)
		askWrong(t, []int{0, s}, api.ErrRange)
		askWrong(t, []int{s, 0, 5}, api.ErrRange)
		// The shape is wrong ahead of it, but told behind it.
		askWrong(t, []int{5, s}, api.ErrRange)
		askWrong(t, []int{8, 8, 0, 0, s}, api.ErrRange)
	}
}

func TestValueByHand(t *testing.T) {
	w := api.World{Things: 4, Has: [3]int{0b0011, 0b0101, 0b1000}}
	for _, c := range []struct {
		text string
		want int
	}{
		{"A", 0b0011}, {"B", 0b0101}, {"C", 0b1000}, {"0", 0}, {"1", 0b1111},
		{"AB+", 0b0111}, {"AB*", 0b0001}, {"AB-", 0b0010}, {"BA-", 0b0100},
		{"A~", 0b1100}, {"A~~", 0b0011}, {"0~", 0b1111}, {"1~", 0},
		{"AB+C+", 0b1111}, {"AB+C-", 0b0111}, {"1AB--", 0b1101}, {"1A-B-", 0b1000},
		{"AB*~C*", 0b1000}, {"CAB-+~", 0b0101},
	} {
		row, err := Parse(c.text)
		if err != nil {
			t.Fatalf("Parse(%q): got %v", c.text, err)
		}
		askValue(t, row, w, c.want, api.OK)
	}
}

// TestValueInEveryWorld of up to three things, and in the corners of the greater ones.
func TestValueInEveryWorld(t *testing.T) {
	terms := []string{"A", "B", "C", "0", "1", "A~", "AB+", "AB*", "AB-", "BC-A~+", "AB+BC+*CA+*", "1ABC++-"}
	for _, text := range terms {
		row, err := Parse(text)
		if err != nil {
			t.Fatalf("Parse(%q): got %v", text, err)
		}
		for u := range maxThings + 1 {
			all := 1<<u - 1
			step := 1
			if u > 3 {
				step = all / 5
			}
			for a := 0; a <= all; a += step {
				for b := 0; b <= all; b += step {
					for c := 0; c <= all; c += step {
						w := api.World{Things: u, Has: [3]int{a, b, c}}
						askValue(t, row, w, wantValue(row, w), api.OK)
					}
				}
			}
		}
	}
}

// TestWrongWorld: every name is to have a set, also one that the term has not.
func TestWrongWorld(t *testing.T) {
	for _, row := range [][]int{{0}, {1}, {2}, {3}, {4}, {0, 1, 5}, {2, 8}} {
		for _, u := range append([]int{7, 8, 62, 63}, far...) {
			if u < 0 || u > maxThings {
				askValue(t, row, api.World{Things: u}, 0, api.ErrRange)
				askValue(t, row, api.World{Things: u, Has: [3]int{1, 1, 1}}, 0, api.ErrRange)
			}
		}
		for u := range maxThings + 1 {
			all := 1<<u - 1
			for name := range 3 {
				for _, s := range []int{math.MinInt, -1, all + 1, 64, math.MaxInt} {
					w := api.World{Things: u, Has: [3]int{all, all, all}}
					w.Has[name] = s
					askValue(t, row, w, 0, api.ErrRange)
				}
			}
		}
	}
}

// TestCheckWorld: of every world of up to two things, and of those beside them.
func TestCheckWorld(t *testing.T) {
	for u := -2; u <= maxThings+2; u++ {
		for k := range 7 * 7 * 7 {
			w := api.World{Things: u, Has: [3]int{k%7 - 1, k/7%7 - 1, k/49 - 1}}
			want := api.OK
			for _, s := range w.Has {
				if u < 0 || u > maxThings || s < 0 || s >= 1<<u {
					want = api.ErrRange
				}
			}
			if got := plain.Told(CheckWorld(w)); got != want {
				t.Errorf("CheckWorld(%v): got %v, want %v", w, got, want)
			}
		}
	}
	if err := CheckWorld(api.World{}); err != nil {
		t.Errorf("CheckWorld: got %v", err)
	}
}

// TestParseEveryByte: nine bytes are signs and all others are none, wherever they stand.
func TestParseEveryByte(t *testing.T) {
	known := "ABC01+*-~"
	for k := range 256 {
		c := string([]byte{byte(k)})
		if i := strings.IndexByte(known, byte(k)); i >= 0 {
			want := []int{i}
			if i > 4 {
				askParse(t, c, nil, api.ErrShape)
				continue
			}
			askParse(t, c, want, api.OK)
			continue
		}
		askParse(t, c, nil, api.ErrSyntax)
		askParse(t, "A"+c, nil, api.ErrSyntax)
		askParse(t, c+"A", nil, api.ErrSyntax)
		askParse(t, "AB"+c+"+", nil, api.ErrSyntax)
		// ErrSyntax goes ahead of what Check tells.
		askParse(t, "+"+c, nil, api.ErrSyntax)
		askParse(t, strings.Repeat("A", 30)+c, nil, api.ErrSyntax)
	}
}

func TestParseWrong(t *testing.T) {
	askParse(t, "", nil, api.ErrNone)
	for _, text := range []string{
		" ", "\n", "A\n", " A", "A B +", "a", "ab+", "2", "00\x00", "AB∪", "\xff\xfe", "Ａ", "A\u0300", "\ufffd", "A\ufffd",
		"\xc1\x81", "\xe0\x81\x81", "AB+;", "A,B", "(A)", "AB&", "D", "_",
	} {
		askParse(t, text, nil, api.ErrSyntax)
	}
	for _, text := range []string{"AB", "A+", "+", "~", "A~~B", "AB+-", "~A", "+AB", "00", "11", "A0+1"} {
		askParse(t, text, nil, api.ErrShape)
	}
}

// TestNothingIsWritten: into a list that is handed in, or what lies behind it.
func TestNothingIsWritten(t *testing.T) {
	whole := []int{0, 1, 5, 8, 99, -5, 7}
	keep := slices.Clone(whole)
	for n := range len(whole) + 1 {
		row := whole[:n]
		Check(row)
		Print(row)
		Value(row, api.World{Things: 3, Has: [3]int{1, 2, 4}})
		if !slices.Equal(whole, keep) {
			t.Fatalf("%d signs: got %v, want %v", n, whole, keep)
		}
	}
	// What lies behind the length is not read.
	askCheck(t, whole[:3], api.OK)
	askCheck(t, whole[:4], api.OK)
	askPrint(t, whole[:4], "AB+~", api.OK)
}

// TestParseIsFresh: what was answered once does not hang on what is done to another answer.
func TestParseIsFresh(t *testing.T) {
	one, _ := Parse("AB+")
	two, _ := Parse("AB+")
	one = append(one[:0], 8, 8, 8, 8, 8)
	if !slices.Equal(two, []int{0, 1, 5}) || len(one) != 5 {
		t.Errorf("got %v", two)
	}
	askParse(t, "AB+", []int{0, 1, 5}, api.OK)
}
