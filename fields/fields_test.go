package fields

import (
	"math"
	"slices"
	"testing"

	"vennhouse/api"
	"vennhouse/atom"
	"vennhouse/plain"
	"vennhouse/sets"
	"vennhouse/term"
)

// The numbers as chapter 6 and package api write them, so that the names are held against them, too.
const (
	maxThings = 6
	fields    = 8
	signs     = 9
)

// powers is 2^0 to 2^7, written out.
var powers = [fields]int{1, 2, 4, 8, 16, 32, 64, 128}

// inField tells, written out, which of A, B and C have what lies in each field.
var inField = [fields][3]bool{
	{false, false, false}, {true, false, false}, {false, true, false}, {true, true, false},
	{false, false, true}, {true, false, true}, {false, true, true}, {true, true, true},
}

// far are numbers that are wrong wherever they stand, and at which a shift or a sum would go astray.
var far = []int{
	math.MinInt, math.MinInt + 1, math.MinInt / 8, -1 << 32, -64, -7, -6, -2, -1,
	64, 255, 256, 1 << 31, 1 << 32, 1 << 61, 1 << 62, math.MaxInt - 1, math.MaxInt,
}

// wrongTerms are rows that are no terms, and what chapter 2 says of them.
var wrongTerms = []struct {
	row   []int
	wrong api.Errno
}{
	{nil, api.ErrNone},
	{[]int{}, api.ErrNone},
	{slices.Repeat([]int{0}, 13), api.ErrFull},
	{slices.Repeat([]int{9}, 13), api.ErrFull},
	{append([]int{0}, slices.Repeat([]int{8}, 12)...), api.ErrFull},
	{[]int{9}, api.ErrRange},
	{[]int{-1}, api.ErrRange},
	{[]int{0, 1, 10}, api.ErrRange},
	{[]int{5, math.MinInt}, api.ErrRange},
	{[]int{0, math.MaxInt}, api.ErrRange},
	{[]int{5}, api.ErrShape},
	{[]int{8}, api.ErrShape},
	{[]int{0, 1}, api.ErrShape},
	{[]int{0, 6}, api.ErrShape},
	{[]int{8, 0}, api.ErrShape},
	{slices.Repeat([]int{0}, 12), api.ErrShape},
}

// wrongCounts are counts that are none, and what the chapter says of them.
var wrongCounts = []struct {
	n     [fields]int
	wrong api.Errno
}{
	{[fields]int{7}, api.ErrRange},
	{[fields]int{-1}, api.ErrRange},
	{[fields]int{0, 0, 0, 0, 0, 0, 0, 7}, api.ErrRange},
	{[fields]int{0, 0, 0, 0, 0, 0, 0, -1}, api.ErrRange},
	{[fields]int{6, 1}, api.ErrFull},
	{[fields]int{0, 0, 0, 0, 0, 0, 1, 6}, api.ErrFull},
	{[fields]int{1, 1, 1, 1, 1, 1, 1, 0}, api.ErrFull},
	{[fields]int{0, 1, 1, 1, 1, 1, 1, 1}, api.ErrFull},
	{[fields]int{1, 1, 1, 1, 1, 1, 1, 1}, api.ErrFull},
	{[fields]int{6, 6, 6, 6, 6, 6, 6, 6}, api.ErrFull},
	// Too many together are told behind one that is wrong, wherever that stands.
	{[fields]int{6, 1, 0, 0, 0, 0, 0, -1}, api.ErrRange},
	{[fields]int{6, 6, 0, 0, 0, 0, 0, 7}, api.ErrRange},
	{[fields]int{-1, 6, 6}, api.ErrRange},
	// Together they would be right, by themselves they are not.
	{[fields]int{7, -1}, api.ErrRange},
	{[fields]int{-1, 1}, api.ErrRange},
	{[fields]int{-6, 6, 6}, api.ErrRange},
	{[fields]int{math.MinInt, math.MinInt}, api.ErrRange},
	{[fields]int{math.MaxInt, math.MaxInt, 2}, api.ErrRange},
	{[fields]int{math.MaxInt, math.MinInt, 1}, api.ErrRange},
	{[fields]int{1 << 61, 1 << 61, 1 << 61, 1 << 61, 1 << 61, 1 << 61, 1 << 61, 1 << 61}, api.ErrRange},
}

// read a term that is right.
func read(t *testing.T, text string) []int {
	t.Helper()
	row, err := term.Parse(text)
	if err != nil {
		t.Fatalf("Parse(%q): got %v", text, err)
	}
	return row
}

// eachCounts does something with all counts that are right: 3003 of them.
func eachCounts(do func(n [fields]int)) (many int) {
	var n [fields]int
	var fill func(field, left int)
	fill = func(field, left int) {
		if field == fields {
			many++
			do(n)
			return
		}
		for k := range left + 1 {
			n[field] = k
			fill(field+1, left-k)
		}
		n[field] = 0
	}
	fill(0, maxThings)
	return many
}

// eachWorld does something with all worlds of u things.
func eachWorld(u int, do func(w api.World)) {
	for a := range 1 << u {
		for b := range 1 << u {
			for c := range 1 << u {
				do(api.World{Things: u, Has: [3]int{a, b, c}})
			}
		}
	}
}

// wantOf is how many things lie in each field, by looking which field each is in.
func wantOf(w api.World) (n [fields]int) {
	for thing := range w.Things {
		var names [3]bool
		for name, s := range w.Has {
			names[name] = s/powers[thing]%2 == 1
		}
		n[slices.Index(inField[:], names)]++
	}
	return n
}

// wantWorld is the world of right counts, by a list of the field of each thing.
func wantWorld(n [fields]int) (w api.World) {
	var list []int
	for field, many := range n {
		list = append(list, slices.Repeat([]int{field}, many)...)
	}
	w.Things = len(list)
	for thing, field := range list {
		for name, is := range inField[field] {
			if is {
				w.Has[name] += powers[thing]
			}
		}
	}
	return w
}

// has tells whether the term at the end of a row has a thing, of which it is known which names have it; and gives what is left. A row that is none has no rest.
func has(row []int, names [3]bool) (is bool, rest []int, ok bool) {
	if len(row) == 0 {
		return false, nil, false
	}
	last, rest := row[len(row)-1], row[:len(row)-1]
	if last < 3 {
		return names[last], rest, true
	}
	if last < 5 {
		return last == 4, rest, true
	}
	second, rest, ok := has(rest, names)
	if !ok || last == 8 {
		return !second, rest, ok
	}
	first, rest, ok := has(rest, names)
	switch last {
	case 5:
		return first || second, rest, ok
	case 6:
		return first && second, rest, ok
	}
	return first && !second, rest, ok
}

// wantMask is the fields of a row of right signs; not ok, if it is not one term.
func wantMask(row []int) (mask int, ok bool) {
	for field, names := range inField {
		is, rest, right := has(row, names)
		if !right || len(rest) > 0 {
			return 0, false
		}
		if is {
			mask += powers[field]
		}
	}
	return mask, true
}

// wantCount is how many lie in the fields of a mask.
func wantCount(mask int, n [fields]int) (many int) {
	for field, k := range n {
		if mask/powers[field]%2 == 1 {
			many += k
		}
	}
	return many
}

func askOf(t *testing.T, w api.World, want [fields]int, wrong api.Errno) {
	t.Helper()
	got, err := Of(w)
	if got != want || plain.Told(err) != wrong {
		t.Errorf("Of(%v): got %v %v, want %v %v", w, got, plain.Told(err), want, wrong)
	}
}

func askWorld(t *testing.T, n [fields]int, want api.World, wrong api.Errno) {
	t.Helper()
	got, err := World(n)
	if got != want || plain.Told(err) != wrong {
		t.Errorf("World(%v): got %v %v, want %v %v", n, got, plain.Told(err), want, wrong)
	}
}

func askMask(t *testing.T, row []int, want int, wrong api.Errno) {
	t.Helper()
	got, err := Mask(row)
	if got != want || plain.Told(err) != wrong {
		t.Errorf("Mask(%v): got %d %v, want %d %v", row, got, plain.Told(err), want, wrong)
	}
}

func askCount(t *testing.T, row []int, n [fields]int, want int, wrong api.Errno) {
	t.Helper()
	got, err := Count(row, n)
	if got != want || plain.Told(err) != wrong {
		t.Errorf("Count(%v, %v): got %d %v, want %d %v", row, n, got, plain.Told(err), want, wrong)
	}
}

func TestNumbersOfTheChapter(t *testing.T) {
	got := [...]int{api.MaxThings, api.Fields, api.Names, api.MaxTerm}
	want := [...]int{maxThings, fields, 3, 12}
	if got != want {
		t.Errorf("numbers: got %v, want %v", got, want)
	}
}

// TestErrorIsNil: where nothing is wrong the error is nil, not an OK in an error.
func TestErrorIsNil(t *testing.T) {
	if _, err := Of(api.World{}); err != nil {
		t.Errorf("Of: got %v", err)
	}
	if _, err := World([fields]int{}); err != nil {
		t.Errorf("World: got %v", err)
	}
	if _, err := Mask([]int{0}); err != nil {
		t.Errorf("Mask: got %v", err)
	}
	if _, err := Count([]int{0}, [fields]int{}); err != nil {
		t.Errorf("Count: got %v", err)
	}
}

func TestOfByHand(t *testing.T) {
	for _, c := range []struct {
		w    api.World
		want [fields]int
	}{
		{api.World{}, [fields]int{}},
		{api.World{Things: 1}, [fields]int{1}},
		{api.World{Things: 1, Has: [3]int{1, 0, 0}}, [fields]int{0, 1}},
		{api.World{Things: 1, Has: [3]int{0, 1, 0}}, [fields]int{0, 0, 1}},
		{api.World{Things: 1, Has: [3]int{0, 0, 1}}, [fields]int{0, 0, 0, 0, 1}},
		{api.World{Things: 6}, [fields]int{6}},
		{api.World{Things: 6, Has: [3]int{63, 63, 63}}, [fields]int{0, 0, 0, 0, 0, 0, 0, 6}},
		{api.World{Things: 6, Has: [3]int{0b000111, 0b011001, 0b101010}}, [fields]int{0, 1, 1, 1, 1, 1, 1}},
		{api.World{Things: 6, Has: [3]int{32, 0, 0}}, [fields]int{5, 1}},
	} {
		askOf(t, c.w, c.want, api.OK)
	}
}

// TestOfEveryWorld: also that things are as many as they were.
func TestOfEveryWorld(t *testing.T) {
	for u := range maxThings + 1 {
		eachWorld(u, func(w api.World) {
			n := wantOf(w)
			askOf(t, w, n, api.OK)
			together := 0
			for _, many := range n {
				together += many
			}
			if together != u {
				t.Fatalf("%v: %v are not %d", w, n, u)
			}
		})
	}
}

func TestOfWrongWorld(t *testing.T) {
	for _, u := range append([]int{7, 8, 9, 62, 63}, far...) {
		for _, s := range []int{0, 1, -1, 63, 64, math.MaxInt, math.MinInt} {
			askOf(t, api.World{Things: u, Has: [3]int{s, s, s}}, [fields]int{}, api.ErrRange)
			askOf(t, api.World{Things: u, Has: [3]int{0, 0, s}}, [fields]int{}, api.ErrRange)
		}
	}
	for u := range maxThings + 1 {
		for name := range 3 {
			for _, s := range append([]int{1 << u, 1<<u + 1, 2 << u}, far...) {
				for _, others := range []int{0, 1<<u - 1} {
					w := api.World{Things: u, Has: [3]int{others, others, others}}
					w.Has[name] = s
					askOf(t, w, [fields]int{}, api.ErrRange)
				}
			}
		}
	}
}

func TestWorldByHand(t *testing.T) {
	for _, c := range []struct {
		n    [fields]int
		want api.World
	}{
		{[fields]int{}, api.World{}},
		{[fields]int{6}, api.World{Things: 6}},
		{[fields]int{0, 6}, api.World{Things: 6, Has: [3]int{63, 0, 0}}},
		{[fields]int{0, 0, 6}, api.World{Things: 6, Has: [3]int{0, 63, 0}}},
		{[fields]int{0, 0, 0, 0, 6}, api.World{Things: 6, Has: [3]int{0, 0, 63}}},
		{[fields]int{0, 0, 0, 0, 0, 0, 0, 6}, api.World{Things: 6, Has: [3]int{63, 63, 63}}},
		{[fields]int{1, 2, 3}, api.World{Things: 6, Has: [3]int{0b000110, 0b111000, 0}}},
		{[fields]int{0, 1, 1, 1, 1, 1, 1}, api.World{Things: 6, Has: [3]int{0b010101, 0b100110, 0b111000}}},
		{[fields]int{2, 0, 0, 0, 0, 0, 0, 1}, api.World{Things: 3, Has: [3]int{4, 4, 4}}},
	} {
		askWorld(t, c.n, c.want, api.OK)
	}
}

// TestWorldOfAllCounts: and in that World there are so many in each.
func TestWorldOfAllCounts(t *testing.T) {
	many := eachCounts(func(n [fields]int) {
		w := wantWorld(n)
		askWorld(t, n, w, api.OK)
		askOf(t, w, n, api.OK)
	})
	if many != 3003 {
		t.Errorf("counts: got %d, want 3003", many)
	}
}

func TestWrongCounts(t *testing.T) {
	for _, c := range wrongCounts {
		askWorld(t, c.n, api.World{}, c.wrong)
		for _, row := range [][]int{{0}, {3}, {4}, {0, 1, 6}} {
			askCount(t, row, c.n, 0, c.wrong)
		}
	}
}

// TestOneWrongCount: in each field, beside counts that are right, and beside ones that are too many together.
func TestOneWrongCount(t *testing.T) {
	for field := range fields {
		for _, k := range append([]int{7, 8, 9}, far...) {
			for _, others := range []int{0, 1, 6} {
				var n [fields]int
				for i := range n {
					n[i] = others
				}
				n[field] = k
				askWorld(t, n, api.World{}, api.ErrRange)
				askCount(t, []int{3}, n, 0, api.ErrRange)
				askCount(t, []int{4}, n, 0, api.ErrRange)
			}
		}
	}
}

// TestTwoCounts: six things together are not too many, and seven are, in whichever fields.
func TestTwoCounts(t *testing.T) {
	for first := range fields {
		for second := range first {
			for j := range maxThings + 1 {
				for k := range maxThings + 1 {
					var n [fields]int
					n[first], n[second] = j, k
					if j+k > maxThings {
						askWorld(t, n, api.World{}, api.ErrFull)
						askCount(t, []int{4}, n, 0, api.ErrFull)
						continue
					}
					askWorld(t, n, wantWorld(n), api.OK)
					askCount(t, []int{4}, n, j+k, api.OK)
				}
			}
		}
	}
}

func TestMaskByHand(t *testing.T) {
	for _, c := range []struct {
		text string
		want int
	}{
		{"A", 0b10101010}, {"B", 0b11001100}, {"C", 0b11110000}, {"0", 0}, {"1", 255},
		{"A~", 0b01010101}, {"B~", 0b00110011}, {"C~", 0b00001111}, {"0~", 255}, {"1~", 0},
		{"AB+", 0b11101110}, {"AB*", 0b10001000}, {"AB-", 0b00100010}, {"BA-", 0b01000100},
		{"AB*C*", 128}, {"AB+C+~", 1}, {"AB-C-", 2}, {"BA-C-", 4}, {"AB*C-", 8},
		{"CA-B-", 16}, {"AC*B-", 32}, {"BC*A-", 64},
		{"AB-BA-+", 0b01100110}, {"A~~~~~~~~~~~", 0b01010101}, {"AA-", 0}, {"AA~+", 255},
	} {
		askMask(t, read(t, c.text), c.want, api.OK)
	}
}

// TestMaskOfAllShortRows: of every row of up to five signs.
func TestMaskOfAllShortRows(t *testing.T) {
	n := [fields]int{1, 0, 2, 0, 1, 1, 0, 1}
	many := 1
	for length := range 6 {
		for k := range many {
			row := make([]int, length)
			for i := range row {
				row[i] = k % signs
				k /= signs
			}
			want, ok := wantMask(row)
			wrong := api.OK
			if length == 0 {
				wrong = api.ErrNone
			} else if !ok {
				wrong = api.ErrShape
			}
			askMask(t, row, want, wrong)
			askCount(t, row, n, wantCount(want, n), wrong)
		}
		many *= signs
	}
}

// longTerms are terms of many signs, the longest ones among them.
func longTerms(t *testing.T) (out [][]int) {
	for _, text := range []string{
		"ABCABC-----~", "ABCABC+*-+*~", "AB-C-A-B-C-~", "AB+C*1-0+~~~", "A~B~C~++~1-~", "01-01-01-+*~",
		"AB+BC+*CA+*", "1ABC++-", "AB*~C*", "CAB-+~", "AB-BA-+C+",
	} {
		out = append(out, read(t, text))
	}
	return out
}

func TestMaskOfLongTerms(t *testing.T) {
	for _, row := range longTerms(t) {
		want, ok := wantMask(row)
		if !ok {
			t.Fatalf("%v is no term", row)
		}
		askMask(t, row, want, api.OK)
	}
}

// TestWrongTerm: and it is told ahead of what is wrong with the counts.
func TestWrongTerm(t *testing.T) {
	for _, c := range wrongTerms {
		askMask(t, c.row, 0, c.wrong)
		askCount(t, c.row, [fields]int{}, 0, c.wrong)
		askCount(t, c.row, [fields]int{1, 1, 1, 1, 1, 1}, 0, c.wrong)
		for _, d := range wrongCounts {
			askCount(t, c.row, d.n, 0, c.wrong)
		}
	}
	for _, s := range far {
		askMask(t, []int{s}, 0, api.ErrRange)
		askCount(t, []int{0, s}, [fields]int{1}, 0, api.ErrRange)
	}
	askMask(t, make([]int, 1<<20), 0, api.ErrFull)
	askCount(t, make([]int, 1<<20), [fields]int{-1}, 0, api.ErrFull)
}

func TestCountByHand(t *testing.T) {
	n := [fields]int{1, 2, 0, 1, 0, 0, 0, 2}
	for _, c := range []struct {
		text string
		want int
	}{
		{"A", 5}, {"B", 3}, {"C", 2}, {"0", 0}, {"1", 6}, {"A~", 1}, {"AB-", 2}, {"AB*", 3}, {"BA-", 0}, {"AB*C*", 2}, {"AB*C-", 1},
	} {
		askCount(t, read(t, c.text), n, c.want, api.OK)
	}
}

// TestCountOfAllCounts: it is also how many things the term has in the World of these.
func TestCountOfAllCounts(t *testing.T) {
	terms := [][]int{{0}, {1}, {2}, {3}, {4}, {0, 8}, {0, 1, 5}, {1, 2, 6}, {2, 0, 7}}
	for _, row := range append(terms, longTerms(t)...) {
		mask, _ := wantMask(row)
		eachCounts(func(n [fields]int) {
			want := wantCount(mask, n)
			askCount(t, row, n, want, api.OK)
			if size := sizeIn(row, wantWorld(n)); size != want {
				t.Errorf("%v in the World of %v: got %d, want %d", row, n, size, want)
			}
		})
	}
}

// sizeIn is how many things a right term has in a right world; -1, if something is wrong.
func sizeIn(row []int, w api.World) int {
	set, err := term.Value(row, w)
	if err != nil {
		return -1
	}
	size, err := sets.Size(w.Things, set)
	if err != nil {
		return -1
	}
	return size
}

// TestWhereNamesCrossCounts: whatever a World is, what is said of it holds as in the World of as many in each field.
func TestWhereNamesCrossCounts(t *testing.T) {
	terms := append(longTerms(t)[5:], []int{0}, []int{1, 8}, []int{0, 2, 5})
	atoms := []api.Atom{
		{What: 1, S: []int{0}, T: []int{1, 2, 5}},
		{What: 2, S: []int{0, 1, 6}, T: []int{2}},
		{What: 3, S: []int{0, 1, 7}, N: 1},
		{What: 4, S: []int{2, 8}, N: 2},
		{What: 5, S: []int{0}, T: []int{1}, N: -1},
	}
	for u := range 5 {
		eachWorld(u, func(w api.World) {
			n, err := Of(w)
			other, bad := World(n)
			if err != nil || bad != nil {
				t.Fatalf("%v: got %v and %v", w, err, bad)
			}
			for _, row := range terms {
				askCount(t, row, n, sizeIn(row, w), api.OK)
			}
			for _, a := range atoms {
				here, _ := atom.Holds(a, w)
				there, _ := atom.Holds(a, other)
				if here != there {
					t.Errorf("%v: %t in %v, %t in %v", a, here, w, there, other)
				}
			}
		})
	}
}

// TestNothingIsWritten: into a list that is handed in, or what lies behind it; and that is not read.
func TestNothingIsWritten(t *testing.T) {
	whole := []int{0, 1, 5, 8, 99, -5, 7}
	keep := slices.Clone(whole)
	for many := range len(whole) + 1 {
		Mask(whole[:many])
		Count(whole[:many], [fields]int{1, 1})
		if !slices.Equal(whole, keep) {
			t.Fatalf("%d signs: got %v, want %v", many, whole, keep)
		}
	}
	askMask(t, whole[:3], 0b11101110, api.OK)
	askMask(t, whole[:4], 0b00010001, api.OK)
	askCount(t, whole[:4], [fields]int{1, 1, 0, 0, 2}, 3, api.OK)
}
