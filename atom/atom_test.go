package atom

import (
	"math"
	"slices"
	"strconv"
	"strings"
	"testing"

	"vennhouse/api"
	"vennhouse/plain"
)

// The numbers and words as chapter 3 writes them, so that the names in api are held against it, too.
const (
	sub       = 1
	same      = 2
	least     = 3
	most      = 4
	noMore    = 5
	maxNumber = 20
)

var spelt = map[int]string{sub: "sub", same: "same", least: "least", most: "most", noMore: "nomore"}

// few are terms of all kinds, and the texts of them.
var few = []struct {
	text string
	row  []int
}{
	{"A", []int{0}}, {"B", []int{1}}, {"C", []int{2}}, {"0", []int{3}}, {"1", []int{4}},
	{"AB+", []int{0, 1, 5}}, {"AC*", []int{0, 2, 6}}, {"BC-", []int{1, 2, 7}}, {"B~", []int{1, 8}},
	{"AB+C*~1-~~~~", []int{0, 1, 5, 2, 6, 8, 4, 7, 8, 8, 8, 8}},
}

// noTerms are rows that are no terms, and what chapter 2 says of them.
var noTerms = []struct {
	row   []int
	wrong api.Errno
}{
	{nil, api.ErrNone},
	{[]int{}, api.ErrNone},
	{slices.Repeat([]int{0}, 13), api.ErrFull},
	{slices.Repeat([]int{9}, 13), api.ErrFull},
	{[]int{9}, api.ErrRange},
	{[]int{0, -1}, api.ErrRange},
	{[]int{0, 1}, api.ErrShape},
	{[]int{5}, api.ErrShape},
}

// noTermTexts are texts of the signs' bytes that are no terms, and what chapter 2 says of them.
var noTermTexts = []struct {
	text  string
	wrong api.Errno
}{
	{"", api.ErrNone},
	{"AAAAAAAAAAAAA", api.ErrFull},
	{"A~~~~~~~~~~~~", api.ErrFull},
	{"AB", api.ErrShape},
	{"+", api.ErrShape},
	{"~A", api.ErrShape},
}

// far are numbers that are too small or too great wherever they stand.
var far = []int{math.MinInt, math.MinInt + 1, -1 << 32, -100, -22, -21, 21, 22, 99, 100, 256, 1 << 32, math.MaxInt - 1, math.MaxInt}

func hasSecond(what int) bool { return what == sub || what == same || what == noMore }

func hasNumber(what int) bool { return what == least || what == most || what == noMore }

// right is an atom of a kind, of these terms and this number, as far as the kind has them; and how it is written.
func right(what, s, t, n int) (api.Atom, string) {
	a := api.Atom{What: what, S: few[s].row}
	text := spelt[what] + " " + few[s].text
	if hasSecond(what) {
		a.T = few[t].row
		text += " " + few[t].text
	}
	if hasNumber(what) {
		a.N = n
		text += " " + strconv.Itoa(n)
	}
	return a, text
}

func equal(a, b api.Atom) bool {
	return a.What == b.What && a.N == b.N && slices.Equal(a.S, b.S) && slices.Equal(a.T, b.T)
}

// in is whether a term, given as a text, has a thing of which it is known which names have it.
func in(text string, names [3]bool) bool {
	var pile []bool
	for _, c := range text {
		last := len(pile) - 1
		switch c {
		case 'A', 'B', 'C':
			pile = append(pile, names[c-'A'])
		case '0', '1':
			pile = append(pile, c == '1')
		case '~':
			pile[last] = !pile[last]
		case '+':
			pile = append(pile[:last-1], pile[last-1] || pile[last])
		case '*':
			pile = append(pile[:last-1], pile[last-1] && pile[last])
		case '-':
			pile = append(pile[:last-1], pile[last-1] && !pile[last])
		}
	}
	return pile[0]
}

// wantHolds goes over the things of a world one by one.
func wantHolds(what int, s, t string, n int, w api.World) bool {
	inS, inT, onlyS, onlyT := 0, 0, 0, 0
	for thing := range w.Things {
		var names [3]bool
		for i, set := range w.Has {
			names[i] = set/(1<<thing)%2 == 1
		}
		isS, isT := in(s, names), in(t, names)
		if isS {
			inS++
		}
		if isT {
			inT++
		}
		if isS && !isT {
			onlyS++
		}
		if isT && !isS {
			onlyT++
		}
	}
	return map[int]bool{
		sub:    onlyS == 0,
		same:   onlyS == 0 && onlyT == 0,
		least:  inS >= n,
		most:   inS <= n,
		noMore: inS <= inT+n,
	}[what]
}

func askCheck(t *testing.T, a api.Atom, want api.Errno) {
	t.Helper()
	if got := plain.Told(Check(a)); got != want {
		t.Errorf("Check(%v): got %v, want %v", a, got, want)
	}
}

func askHolds(t *testing.T, a api.Atom, w api.World, want bool, wrong api.Errno) {
	t.Helper()
	got, err := Holds(a, w)
	if got != want || plain.Told(err) != wrong {
		t.Errorf("Holds(%v, %v): got %t %v, want %t %v", a, w, got, plain.Told(err), want, wrong)
	}
}

func askPrint(t *testing.T, a api.Atom, want string, wrong api.Errno) {
	t.Helper()
	got, err := Print(a)
	if got != want || plain.Told(err) != wrong {
		t.Errorf("Print(%v): got %q %v, want %q %v", a, got, plain.Told(err), want, wrong)
	}
}

func askParse(t *testing.T, text string, want api.Atom, wrong api.Errno) {
	t.Helper()
	got, err := Parse(text)
	if !equal(got, want) || plain.Told(err) != wrong {
		t.Errorf("Parse(%.60q): got %v %v, want %v %v", text, got, plain.Told(err), want, wrong)
	}
}

// noParse asks for an error and an atom that is empty.
func noParse(t *testing.T, text string, wrong api.Errno) {
	t.Helper()
	askParse(t, text, api.Atom{}, wrong)
}

// askWrong asks every call of an atom that is none; also in a world that is none: what is wrong with the atom is told first.
func askWrong(t *testing.T, a api.Atom, wrong api.Errno) {
	t.Helper()
	askCheck(t, a, wrong)
	askPrint(t, a, "", wrong)
	askHolds(t, a, api.World{Things: 3, Has: [3]int{1, 2, 4}}, false, wrong)
	askHolds(t, a, api.World{Things: -1}, false, wrong)
	askHolds(t, a, api.World{Things: 3, Has: [3]int{8, -1, 4}}, false, wrong)
}

func TestNumbersOfTheChapter(t *testing.T) {
	got := [...]int{api.Sub, api.Same, api.AtLeast, api.AtMost, api.NoMore, api.MaxNumber}
	want := [...]int{1, 2, 3, 4, 5, 20}
	if got != want {
		t.Errorf("numbers: got %v, want %v", got, want)
	}
}

// TestErrorIsNil: where nothing is wrong the error is nil, not an OK in an error.
func TestErrorIsNil(t *testing.T) {
	a := api.Atom{What: noMore, S: []int{0}, T: []int{1}, N: -3}
	if err := Check(a); err != nil {
		t.Errorf("Check: got %v", err)
	}
	if _, err := Holds(a, api.World{}); err != nil {
		t.Errorf("Holds: got %v", err)
	}
	if _, err := Print(a); err != nil {
		t.Errorf("Print: got %v", err)
	}
	if _, err := Parse("sub A B"); err != nil {
		t.Errorf("Parse: got %v", err)
	}
}

// TestRightAtoms: Check, Print and Parse, of every kind with every pair of a few terms and every number.
func TestRightAtoms(t *testing.T) {
	for what := sub; what <= noMore; what++ {
		for i := range few {
			for j := range few {
				for n := -maxNumber; n <= maxNumber; n++ {
					a, text := right(what, i, j, n)
					askCheck(t, a, api.OK)
					askPrint(t, a, text, api.OK)
					askParse(t, text, a, api.OK)
				}
			}
		}
	}
}

func TestKindThatIsNone(t *testing.T) {
	for _, what := range append([]int{0, -1, -2, -3, -4, -5, 6, 7, 10, 12, 20}, far...) {
		askWrong(t, api.Atom{What: what, S: []int{0}, T: []int{1}}, api.ErrRange)
		askWrong(t, api.Atom{What: what, S: []int{0}, N: 1}, api.ErrRange)
		// Whatever else is wrong is told behind it.
		askWrong(t, api.Atom{What: what}, api.ErrRange)
		askWrong(t, api.Atom{What: what, S: []int{0, 1}, T: []int{5}, N: 99}, api.ErrRange)
	}
}

func TestFirstTermThatIsNone(t *testing.T) {
	for what := sub; what <= noMore; what++ {
		for _, c := range noTerms {
			a, _ := right(what, 0, 1, 1)
			a.S = c.row
			askWrong(t, a, c.wrong)
			// Ahead of what is wrong with the second one, and with the number.
			for _, other := range noTerms {
				a.T, a.N = other.row, 21
				askWrong(t, a, c.wrong)
			}
		}
	}
}

func TestSecondTermThatIsNone(t *testing.T) {
	for _, what := range []int{sub, same, noMore} {
		for _, c := range noTerms {
			askWrong(t, api.Atom{What: what, S: []int{0}, T: c.row}, c.wrong)
			for _, n := range far {
				askWrong(t, api.Atom{What: what, S: []int{0}, T: c.row, N: n}, c.wrong)
			}
		}
	}
}

// TestSecondTermTooMany: where there is to be none, a right one is wrong, too.
func TestSecondTermTooMany(t *testing.T) {
	for _, what := range []int{least, most} {
		for _, row := range [][]int{{0}, {4}, {9}, {-1}, {5}, {0, 1}, {0, 1, 5}, slices.Repeat([]int{0}, 13)} {
			askWrong(t, api.Atom{What: what, S: []int{0}, T: row, N: 2}, api.ErrShape)
			askWrong(t, api.Atom{What: what, S: []int{0}, T: row, N: 21}, api.ErrShape)
		}
		askCheck(t, api.Atom{What: what, S: []int{0}, T: []int{}, N: 2}, api.OK)
	}
}

func TestNumberThatIsNone(t *testing.T) {
	for _, n := range far {
		for what := sub; what <= noMore; what++ {
			a, _ := right(what, 0, 1, 1)
			a.N = n
			askWrong(t, a, api.ErrRange)
		}
	}
	for n := -maxNumber; n <= maxNumber; n++ {
		for _, what := range []int{sub, same} {
			wrong := api.ErrRange
			if n == 0 {
				wrong = api.OK
			}
			askCheck(t, api.Atom{What: what, S: []int{0}, T: []int{1}, N: n}, wrong)
		}
	}
	askWrong(t, api.Atom{What: sub, S: []int{0}, T: []int{1}, N: 1}, api.ErrRange)
	askWrong(t, api.Atom{What: same, S: []int{0}, T: []int{1}, N: -1}, api.ErrRange)
}

func TestHoldsByHand(t *testing.T) {
	w := api.World{Things: 4, Has: [3]int{0b0011, 0b0111, 0b1000}}
	for _, c := range []struct {
		text string
		want bool
	}{
		{"sub A B", true}, {"sub B A", false}, {"sub A A", true}, {"sub C A~", true}, {"sub 0 C", true}, {"sub 1 B", false},
		{"same A A", true}, {"same A B", false}, {"same B C~", true}, {"same A C", false}, {"same 0 AC*", true},
		{"least A 2", true}, {"least A 3", false}, {"least A 1", true}, {"least 0 0", true}, {"least 0 -1", true}, {"least 1 5", false},
		{"most A 2", true}, {"most A 1", false}, {"most A 3", true}, {"most 0 0", true}, {"most 0 -1", false}, {"most 1 20", true},
		{"nomore A B 0", true}, {"nomore B A 0", false}, {"nomore B A 1", true}, {"nomore A B -1", true}, {"nomore A B -2", false},
		{"nomore C A 0", true}, {"nomore C A -1", true}, {"nomore C A -2", false}, {"nomore 0 1 -4", true}, {"nomore 0 1 -5", false},
		{"nomore 1 0 4", true}, {"nomore 1 0 3", false},
	} {
		a, err := Parse(c.text)
		if err != nil {
			t.Fatalf("Parse(%q): got %v", c.text, err)
		}
		askHolds(t, a, w, c.want, api.OK)
	}
}

// TestHoldsInManyWorlds: in every world of up to two things, and in the corners of the greater ones.
func TestHoldsInManyWorlds(t *testing.T) {
	numbers := []int{-20, -7, -6, -2, -1, 0, 1, 2, 3, 5, 6, 7, 20}
	for u := range 7 {
		all := 1<<u - 1
		step := 1
		if u > 2 {
			step = all / 3
		}
		for k := range 64 {
			w := api.World{Things: u, Has: [3]int{k % 4 * step, k / 4 % 4 * step, k / 16 * step}}
			if slices.Max(w.Has[:]) > all {
				continue
			}
			for what := sub; what <= noMore; what++ {
				for i, s := range few {
					for j, second := range few {
						for _, n := range numbers {
							a, _ := right(what, i, j, n)
							askHolds(t, a, w, wantHolds(what, s.text, second.text, n, w), api.OK)
						}
					}
				}
			}
		}
	}
}

// TestWrongWorld: every name is to have a set, also one that no term has.
func TestWrongWorld(t *testing.T) {
	for what := sub; what <= noMore; what++ {
		a, _ := right(what, 0, 4, 0)
		for _, u := range append([]int{-1, 7, 8, 62, 63, 64}, far...) {
			askHolds(t, a, api.World{Things: u}, false, api.ErrRange)
			askHolds(t, a, api.World{Things: u, Has: [3]int{1, 1, 1}}, false, api.ErrRange)
		}
		for u := range 7 {
			all := 1<<u - 1
			for name := range 3 {
				for _, s := range []int{math.MinInt, -1, all + 1, 64, math.MaxInt} {
					w := api.World{Things: u, Has: [3]int{all, all, all}}
					w.Has[name] = s
					askHolds(t, a, w, false, api.ErrRange)
				}
			}
		}
	}
}

func TestParseNumbers(t *testing.T) {
	for n := -200; n <= 200; n++ {
		wrong := api.OK
		if n < -99 || n > 99 {
			wrong = api.ErrSyntax
		} else if n < -20 || n > 20 {
			wrong = api.ErrRange
		}
		for _, what := range []int{least, most, noMore} {
			a, text := right(what, 5, 6, n)
			if wrong != api.OK {
				a = api.Atom{}
			}
			askParse(t, text, a, wrong)
		}
	}
	for _, number := range []string{
		"", "-", "--1", "-0", "00", "01", "-01", "-00", "007", "+1", "+0", "1-", "1.", "1.0", "0x1", "1_0", "1e1", "A", "x", "²", "１", "1\x00", "\xff", "\t1",
		"100", "-100", "020", "0020", "9223372036854775807", "-9223372036854775808", "18446744073709551617", strings.Repeat("1", 1000), strings.Repeat("0", 1<<20),
	} {
		for _, ahead := range []string{"least A ", "most A ", "nomore A B "} {
			noParse(t, ahead+number, api.ErrSyntax)
		}
	}
}

// TestParseNoTerm: what chapter 2 says of a term, the first one's ahead of the second one's, and both ahead of the number's.
func TestParseNoTerm(t *testing.T) {
	for _, c := range noTermTexts {
		for _, other := range noTermTexts {
			noParse(t, "sub "+c.text+" "+other.text, c.wrong)
			noParse(t, "same "+c.text+" "+other.text, c.wrong)
			noParse(t, "nomore "+c.text+" "+other.text+" 1", c.wrong)
			noParse(t, "nomore "+c.text+" "+other.text+" 21", c.wrong)
		}
		noParse(t, "sub "+c.text+" B", c.wrong)
		noParse(t, "same "+c.text+" B", c.wrong)
		noParse(t, "nomore "+c.text+" B 1", c.wrong)
		noParse(t, "sub A "+c.text, c.wrong)
		noParse(t, "same A "+c.text, c.wrong)
		for _, n := range []string{"0", "20", "-20", "21", "-21", "99"} {
			noParse(t, "nomore A "+c.text+" "+n, c.wrong)
			noParse(t, "least "+c.text+" "+n, c.wrong)
			noParse(t, "most "+c.text+" "+n, c.wrong)
		}
	}
}

// TestParseSyntaxFirst: of any part, whatever Check says of one ahead of it.
func TestParseSyntaxFirst(t *testing.T) {
	for _, c := range noTermTexts {
		for _, n := range []string{"", "-0", "01", "100", "x"} {
			noParse(t, "least "+c.text+" "+n, api.ErrSyntax)
			noParse(t, "most "+c.text+" "+n, api.ErrSyntax)
			noParse(t, "nomore "+c.text+" B "+n, api.ErrSyntax)
			noParse(t, "nomore A "+c.text+" "+n, api.ErrSyntax)
		}
		noParse(t, "sub "+c.text+" b", api.ErrSyntax)
		noParse(t, "sub b "+c.text, api.ErrSyntax)
		noParse(t, "nomore "+c.text+" b 1", api.ErrSyntax)
		noParse(t, "subs "+c.text+" B", api.ErrSyntax)
		noParse(t, "sub "+c.text+" B 0", api.ErrSyntax)
	}
}

func TestParseWrong(t *testing.T) {
	for _, text := range []string{
		"", " ", "  ", "   ", "    ", "A", "sub", "sub ", "sub A", "same A", "least A", "least 1", "nomore A", "nomore A B", "nomore A 1",
		"sub A B ", " sub A B", "sub  A B", "sub A  B", "sub A B 0", "same A B 1", "sub A B C",
		"least A B 1", "least A 1 ", "most A 1 1", "nomore A B 1 ", "nomore A B C 1", "nomore A B 1 1", "nomore A B 1 1 1",
		"Sub A B", "SAME A B", "subset A B", "atleast A 1", "no more A B 1", " A B", " A 1", "0 A B", "1 A B",
		"sub\tA B", "sub A\tB", "sub A B\n", "least A 1\n", "\nsub A B", "sub,A,B", "sub a B", "sub A b", "least a 1", "nomore A B\u00a01",
		"sub A B\x00", "sub\x00 A B", "sub A \xff", "sub A\u2003B", "sub A B ", "least A 1 B", "most 1 A B",
	} {
		noParse(t, text, api.ErrSyntax)
	}
}

// TestParseEveryByte: a byte more, or another one, at every place of a right text.
func TestParseEveryByte(t *testing.T) {
	for _, text := range []string{"sub AB+ C~", "same A 1", "least AB* 12", "most C -3", "nomore A BC- -17"} {
		for i := range len(text) + 1 {
			for k := range 256 {
				askByte(t, text[:i]+string([]byte{byte(k)})+text[i:])
				if i < len(text) {
					askByte(t, text[:i]+string([]byte{byte(k)})+text[i+1:])
				}
			}
		}
	}
}

// askByte holds that what is read is written as it was, and that a foreign byte is told of.
func askByte(t *testing.T, text string) {
	t.Helper()
	a, err := Parse(text)
	if err == nil {
		askPrint(t, a, text, api.OK)
		return
	}
	if !equal(a, api.Atom{}) {
		t.Errorf("Parse(%q): got %v with %v", text, a, err)
	}
	foreign := func(r rune) bool { return !strings.ContainsRune("submelatnor ABC0123456789+*-~", r) }
	if strings.ContainsFunc(text, foreign) && plain.Told(err) != api.ErrSyntax {
		t.Errorf("Parse(%q): got %v", text, err)
	}
}

func TestParseVeryLong(t *testing.T) {
	long := 1 << 20
	noParse(t, strings.Repeat(" ", long), api.ErrSyntax)
	noParse(t, strings.Repeat("sub ", long), api.ErrSyntax)
	noParse(t, "sub A "+strings.Repeat("A", long), api.ErrFull)
	noParse(t, "sub "+strings.Repeat("A", long)+" A", api.ErrFull)
	noParse(t, "sub "+strings.Repeat("A", long)+"a A", api.ErrSyntax)
	noParse(t, "least A "+strings.Repeat("-", long), api.ErrSyntax)
}

// TestNothingIsWritten: into lists that are handed in, or what lies behind them.
func TestNothingIsWritten(t *testing.T) {
	first, second := []int{0, 1, 5, 8, 99, -5, 7}, []int{2, 8, 8, 4, 6, -1}
	keepFirst, keepSecond := slices.Clone(first), slices.Clone(second)
	for i := range len(first) + 1 {
		for j := range len(second) + 1 {
			for what := range 7 {
				a := api.Atom{What: what, S: first[:i], T: second[:j]}
				Check(a)
				Print(a)
				Holds(a, api.World{Things: 3, Has: [3]int{1, 2, 4}})
			}
		}
	}
	if !slices.Equal(first, keepFirst) || !slices.Equal(second, keepSecond) {
		t.Fatalf("got %v, %v, want %v, %v", first, second, keepFirst, keepSecond)
	}
	// What lies behind the length is not read.
	askPrint(t, api.Atom{What: sub, S: first[:3], T: second[:2]}, "sub AB+ C~", api.OK)
	askPrint(t, api.Atom{What: least, S: first[:4], T: second[:0], N: 4}, "least AB+~ 4", api.OK)
}

// TestParseIsFresh: no list of an answer shares memory with another one.
func TestParseIsFresh(t *testing.T) {
	one, _ := Parse("nomore AB+ AB+ 3")
	two, _ := Parse("nomore AB+ AB+ 3")
	one.S = append(one.S[:0], 8, 8, 8, 8, 8, 8, 8, 8)
	if !slices.Equal(one.T, []int{0, 1, 5}) {
		t.Errorf("the second term: got %v", one.T)
	}
	one.T = append(one.T[:0], 7, 7, 7, 7, 7, 7, 7, 7)
	if !slices.Equal(one.S, slices.Repeat([]int{8}, 8)) {
		t.Errorf("the first term: got %v", one.S)
	}
	if !equal(two, api.Atom{What: noMore, S: []int{0, 1, 5}, T: []int{0, 1, 5}, N: 3}) {
		t.Errorf("another answer: got %v", two)
	}
}

// TestAnswersEmpty: an atom without a second term has none, and one without a number has 0.
func TestAnswersEmpty(t *testing.T) {
	for _, text := range []string{"least A 3", "most BC* -1"} {
		if a, err := Parse(text); err != nil || len(a.T) != 0 {
			t.Errorf("Parse(%q): got %v %v", text, a, err)
		}
	}
	for _, text := range []string{"sub A B", "same 1 1"} {
		if a, err := Parse(text); err != nil || a.N != 0 {
			t.Errorf("Parse(%q): got %v %v", text, a, err)
		}
	}
}
