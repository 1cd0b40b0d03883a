package text

import (
	"math"
	"reflect"
	"regexp"
	"slices"
	"strconv"
	"strings"
	"testing"

	"vennhouse/api"
	"vennhouse/atom"
	"vennhouse/form"
	"vennhouse/plain"
)

// The numbers as chapter 4 and package api write them, so that the names are held against them, too.
const (
	and  = 10
	or   = 11
	no   = 12
	then = 13

	maxAtoms = 6
	maxCode  = 20
)

// spelt are the signs that put formulas together.
var spelt = map[int]string{and: "and", or: "or", no: "no", then: "then"}

// of has atoms, as texts, and a Code.
func of(t *testing.T, texts []string, code ...int) api.Form {
	t.Helper()
	f := api.Form{Code: code}
	for _, text := range texts {
		a, err := atom.Parse(text)
		if err != nil {
			t.Fatalf("Parse(%q): got %v", text, err)
		}
		f.Atoms = append(f.Atoms, a)
	}
	return f
}

// equal formulas, where an empty list and nil are the same.
func equal(f, g api.Form) bool {
	same := func(a, b api.Atom) bool {
		return a.What == b.What && a.N == b.N && slices.Equal(a.S, b.S) && slices.Equal(a.T, b.T)
	}
	return slices.EqualFunc(f.Atoms, g.Atoms, same) && slices.Equal(f.Code, g.Code)
}

func askPrint(t *testing.T, f api.Form, want string, wrong api.Errno) {
	t.Helper()
	got, err := Print(f)
	if got != want || plain.Told(err) != wrong {
		t.Errorf("Print(%v): got %q %v, want %q %v", f, got, plain.Told(err), want, wrong)
	}
}

func askParse(t *testing.T, text string, want api.Form, wrong api.Errno) {
	t.Helper()
	got, err := Parse(text)
	if !equal(got, want) || plain.Told(err) != wrong {
		t.Errorf("Parse(%.200q): got %v %v, want %v %v", text, got, plain.Told(err), want, wrong)
	}
}

// noParse asks for an error, and for a formula that has nothing.
func noParse(t *testing.T, text string, wrong api.Errno) {
	t.Helper()
	askParse(t, text, api.Form{}, wrong)
}

// askBoth: the formula is written so, and so read again.
func askBoth(t *testing.T, f api.Form, text string) {
	t.Helper()
	askPrint(t, f, text, api.OK)
	askParse(t, text, f, api.OK)
}

// written is how the texts of atoms and the signs of a Code are to be written.
func written(texts []string, code []int) string {
	line := "code"
	for _, sign := range code {
		if word, ok := spelt[sign]; ok {
			line += " " + word
		} else {
			line += " " + strconv.Itoa(sign)
		}
	}
	return strings.Join(append(slices.Clone(texts), line, ""), "\n")
}

// right has the form of a text, but for what is wrong with its atoms, or with the formula.
var right = regexp.MustCompile(`\A((?s:.*)\n)?code( ([0-9]|and|or|no|then))*\n\z`)

// signs of a line of a Code.
var signs = regexp.MustCompile(` ([0-9]|and|or|no|then)`)

// wantParse reads a text by its form as a whole, then by its lines.
func wantParse(text string) (api.Form, api.Errno) {
	if !right.MatchString(text) {
		return api.Form{}, api.ErrSyntax
	}
	lines := strings.Split(strings.TrimSuffix(text, "\n"), "\n")
	last := len(lines) - 1
	var f api.Form
	for _, line := range lines[:last] {
		a, err := atom.Parse(line)
		if err != nil {
			return api.Form{}, plain.Told(err)
		}
		f.Atoms = append(f.Atoms, a)
	}
	for _, word := range signs.FindAllString(lines[last], -1) {
		sign, err := strconv.Atoi(word[1:])
		if err != nil {
			sign = map[string]int{" and": and, " or": or, " no": no, " then": then}[word]
		}
		f.Code = append(f.Code, sign)
	}
	if err := form.Check(f); err != nil {
		return api.Form{}, plain.Told(err)
	}
	return f, api.OK
}

// askText holds any text against wantParse; and one that is read is to be written so again: just such a text is read.
func askText(t *testing.T, text string) api.Errno {
	t.Helper()
	want, wrong := wantParse(text)
	askParse(t, text, want, wrong)
	if wrong == api.OK {
		askPrint(t, want, text, api.OK)
	}
	return wrong
}

// pool of atoms of all kinds.
var pool = []string{
	"sub A B", "sub 0 1", "sub AB*C+ C~", "same A B", "same AB-BA-+ 0", "same A~~~~~~~~~~~ C",
	"least A 1", "least AB-C- 0", "least 1 -1", "least C~ 20", "most A 0", "most B -20", "most AB+ 2", "most 1 10",
	"nomore A B 0", "nomore B A -1", "nomore A C 20", "nomore AB+ C -20", "nomore C~ B 9",
}

// chooser answers numbers from 0 to below n, one behind the other, always the same ones.
func chooser() func(n int) int {
	state := uint64(1)
	return func(n int) int {
		state = state*6364136223846793005 + 1442695040888963407
		return int(state >> 33 % uint64(n))
	}
}

// chosen are the texts of up to six atoms, and a right Code of them.
func chosen(choose func(n int) int) (texts []string, code []int) {
	for range 1 + choose(maxAtoms) {
		texts = append(texts, pool[choose(len(pool))])
	}
	two := func() int { return []int{and, or, then}[choose(3)] }
	depth, most := 1, 1+choose(maxCode)
	code = []int{choose(len(texts))}
	// Each formula but one needs one more sign, that takes it.
	for len(code)+depth+1 <= most {
		switch k := choose(7); {
		case k == 0:
			code = append(code, no)
		case k <= 3 && depth >= 2:
			code, depth = append(code, two()), depth-1
		default:
			code, depth = append(code, choose(len(texts))), depth+1
		}
	}
	for range depth - 1 {
		code = append(code, two())
	}
	return texts, code
}

// long has so many signs: No over and over behind an atom.
func long(many int) []int {
	return append([]int{0}, slices.Repeat([]int{no}, many-1)...)
}

func TestNumbersOfTheChapter(t *testing.T) {
	got := [...]int{api.And, api.Or, api.No, api.Then, api.MaxAtoms, api.MaxCode, int(api.ErrSyntax)}
	want := [...]int{and, or, no, then, maxAtoms, maxCode, 2}
	if got != want {
		t.Errorf("numbers: got %v, want %v", got, want)
	}
}

// TestErrorIsNil: where nothing is wrong the error is nil, not an OK in an error.
func TestErrorIsNil(t *testing.T) {
	if _, err := Print(of(t, []string{"sub A B"}, 0)); err != nil {
		t.Errorf("Print: got %v", err)
	}
	if _, err := Parse("sub A B\ncode 0\n"); err != nil {
		t.Errorf("Parse: got %v", err)
	}
}

func TestByHand(t *testing.T) {
	for _, c := range []struct {
		f    api.Form
		text string
	}{
		{
			api.Form{Atoms: []api.Atom{{What: 1, S: []int{0}, T: []int{1}}}, Code: []int{0}},
			"sub A B\ncode 0\n",
		},
		{
			api.Form{Atoms: []api.Atom{{What: 2, S: []int{0, 1, 5}, T: []int{2, 8}}}, Code: []int{0, no}},
			"same AB+ C~\ncode 0 no\n",
		},
		{
			api.Form{Atoms: []api.Atom{{What: 3, S: []int{4}, N: 20}, {What: 4, S: []int{3}, N: -20}}, Code: []int{1, 0, and}},
			"least 1 20\nmost 0 -20\ncode 1 0 and\n",
		},
		{
			api.Form{Atoms: []api.Atom{{What: 5, S: []int{0, 1, 6}, T: []int{1, 2, 7}, N: -1}}, Code: []int{0, 0, or}},
			"nomore AB* BC- -1\ncode 0 0 or\n",
		},
		{
			api.Form{Atoms: []api.Atom{{What: 3, S: []int{2}}, {What: 5, S: []int{0}, T: []int{1}}}, Code: []int{0, 1, then, no}},
			"least C 0\nnomore A B 0\ncode 0 1 then no\n",
		},
	} {
		askBoth(t, c.f, c.text)
	}
}

// TestEverySign: each atom's number, and each word, stands for itself; atoms that no sign is the number of are written and read, too.
func TestEverySign(t *testing.T) {
	for many := 1; many <= maxAtoms; many++ {
		texts := pool[:many]
		for i := range many {
			askBoth(t, of(t, texts, i), written(texts, []int{i}))
			for j := range many {
				for _, sign := range []int{and, or, then} {
					code := []int{i, j, sign, no}
					askBoth(t, of(t, texts, code...), written(texts, code))
				}
			}
		}
	}
}

// TestEveryAtom: each kind of line alone, and twice.
func TestEveryAtom(t *testing.T) {
	for _, text := range pool {
		askBoth(t, of(t, []string{text}, 0), text+"\ncode 0\n")
		askBoth(t, of(t, []string{text, text}, 1, 0, or), text+"\n"+text+"\ncode 1 0 or\n")
	}
}

// TestBounds: as much as may be, and one more.
func TestBounds(t *testing.T) {
	for many := 1; many <= 9; many++ {
		texts := slices.Repeat([]string{"sub A~~~~~~~~~~~ B~~~~~~~~~~~"}, many)
		for _, length := range []int{1, 2, 3, 19, 20, 21, 22, 23, 40, 41, 42, 43} {
			f, text := of(t, texts, long(length)...), written(texts, long(length))
			if many <= maxAtoms && length <= maxCode {
				askBoth(t, f, text)
			} else {
				askPrint(t, f, "", api.ErrFull)
				noParse(t, text, api.ErrFull)
			}
		}
	}
}

// TestReadAsItWas: chosen formulas, written and read.
func TestReadAsItWas(t *testing.T) {
	choose := chooser()
	for range 20000 {
		texts, code := chosen(choose)
		askBoth(t, of(t, texts, code...), written(texts, code))
	}
}

// wrongFormula is none, and what is wrong with it.
type wrongFormula struct {
	f     api.Form
	wrong api.Errno
}

// wrongFormulas are formulas that are none, and what chapter 4 says of them.
func wrongFormulas() []wrongFormula {
	a := api.Atom{What: 3, S: []int{0}, N: 1}
	one := []api.Atom{a}
	out := []wrongFormula{
		{api.Form{}, api.ErrNone},
		{api.Form{Atoms: one}, api.ErrNone},
		{api.Form{Atoms: one, Code: []int{}}, api.ErrNone},
		{api.Form{Code: []int{0}}, api.ErrNone},
		{api.Form{Atoms: []api.Atom{}, Code: long(21)}, api.ErrNone},
		{api.Form{Atoms: []api.Atom{{What: 3}}, Code: []int{0}}, api.ErrNone},
		{api.Form{Atoms: []api.Atom{a, {What: 1, S: []int{0}}}, Code: []int{0}}, api.ErrNone},
		{api.Form{Atoms: slices.Repeat(one, 7), Code: []int{0}}, api.ErrFull},
		{api.Form{Atoms: make([]api.Atom, 7), Code: []int{-1}}, api.ErrFull},
		{api.Form{Atoms: one, Code: long(21)}, api.ErrFull},
		{api.Form{Atoms: []api.Atom{{What: 3, S: slices.Repeat([]int{0}, 13)}}, Code: []int{0}}, api.ErrFull},
		{api.Form{Atoms: []api.Atom{a, {}}, Code: []int{0}}, api.ErrRange},
		{api.Form{Atoms: []api.Atom{{What: 6, S: []int{0}}}, Code: []int{0}}, api.ErrRange},
		{api.Form{Atoms: []api.Atom{{What: 3, S: []int{9}}}, Code: []int{0}}, api.ErrRange},
		{api.Form{Atoms: []api.Atom{{What: 3, S: []int{0}, N: 21}}, Code: []int{0}}, api.ErrRange},
		{api.Form{Atoms: []api.Atom{{What: 1, S: []int{0}, T: []int{0}, N: 1}}, Code: []int{0}}, api.ErrRange},
		{api.Form{Atoms: []api.Atom{a, {What: 3, S: []int{0, 1}}}, Code: []int{0}}, api.ErrShape},
		{api.Form{Atoms: []api.Atom{{What: 3, S: []int{0}, T: []int{0}}}, Code: []int{0}}, api.ErrShape},
		{api.Form{Atoms: one, Code: []int{0, 0}}, api.ErrShape},
		{api.Form{Atoms: one, Code: []int{no}}, api.ErrShape},
		{api.Form{Atoms: one, Code: []int{0, and}}, api.ErrShape},
	}
	for _, sign := range []int{math.MinInt, -1 << 32, -10, -1, 1, 2, 5, 6, 9, 14, 15, 1 << 32, 1<<32 + 10, math.MaxInt} {
		out = append(out,
			wrongFormula{api.Form{Atoms: one, Code: []int{sign}}, api.ErrRange},
			wrongFormula{api.Form{Atoms: one, Code: []int{0, 0, sign, and}}, api.ErrRange})
	}
	return out
}

func TestPrintWrong(t *testing.T) {
	for _, c := range wrongFormulas() {
		askPrint(t, c.f, "", c.wrong)
	}
}

// wrongCodes are last lines that are not written as one of a Code is.
var wrongCodes = []string{
	"", " ", "code ", "code  ", "code  0", "code 0 ", "code 0  no", " code 0", "code\t0", "code 0\tno", "code 0\r", "code 0\x00", "code 0\v",
	"cod 0", "codes 0", "Code 0", "CODE 0", "code0", "code,0", "0", "0 no", "code code", "code 0 code", "code 0 code 0",
	"code 10", "code 00", "code 01", "code 11", "code 12", "code 13", "code 20", "code 0 00", "code 0 0 10", "code -0", "code -1", "code +0", "code +1", "code 0x0", "code 0.",
	"code a", "code an", "code ands", "code And", "code AND", "code 0 0 And", "code o", "code 0 0 OR", "code not", "code n", "code 0 No", "code 0 the", "code 0 0 thens", "code 0 0 thenand",
	"code 00and", "code 0 0and", "code 0no", "code 0 no0", "code 0 ~", "code 0 *", "code A", "code ٠", "code 0\u00a0no", "code\u00a00", "code 0 \xff", "code \xc3", "\ufeffcode 0",
	"sub A B", "least A 1", "code 0 # no", "code 0;",
}

// wrongLines are lines that are no atoms, and what chapter 3 says of them.
var wrongLines = []struct {
	line  string
	wrong api.Errno
}{
	{"", api.ErrSyntax},
	{" ", api.ErrSyntax},
	{"sub A", api.ErrSyntax},
	{"sub A B ", api.ErrSyntax},
	{" sub A B", api.ErrSyntax},
	{"sub A b", api.ErrSyntax},
	{"sub A B\r", api.ErrSyntax},
	{"sub A B 0", api.ErrSyntax},
	{"least A", api.ErrSyntax},
	{"least A 01", api.ErrSyntax},
	{"least A 100", api.ErrSyntax},
	{"least A -0", api.ErrSyntax},
	{"code 0", api.ErrSyntax},
	{"code", api.ErrSyntax},
	{"least A 21", api.ErrRange},
	{"nomore A B -99", api.ErrRange},
	{"sub AB C", api.ErrShape},
	{"most ~ 1", api.ErrShape},
	{"sub AAAAAAAAAAAAA C", api.ErrFull},
	{"sub  B", api.ErrNone},
	{"least  1", api.ErrNone},
}

// TestCodeFirst: what is wrong with the last line is told ahead of what is wrong with those ahead of it, or with how many there are.
func TestCodeFirst(t *testing.T) {
	for _, last := range wrongCodes {
		for _, ahead := range []string{"", "sub A B\n", "sub A B\nleast A 1\n", strings.Repeat("sub A B\n", 7)} {
			noParse(t, ahead+last+"\n", api.ErrSyntax)
			noParse(t, ahead+last, api.ErrSyntax)
		}
		for _, c := range wrongLines {
			noParse(t, c.line+"\n"+last+"\n", api.ErrSyntax)
		}
	}
	// Also behind signs that are too many, or of no atom.
	noParse(t, "sub A B\ncode"+strings.Repeat(" 9", 21)+" x\n", api.ErrSyntax)
	noParse(t, "sub A B\ncode"+strings.Repeat(" 0", 30)+" \n", api.ErrSyntax)
}

// TestNotEnded: every line ends in byte 10, the last one, too; and there is nothing behind it.
func TestNotEnded(t *testing.T) {
	text := "sub A B\nleast A 1\ncode 0 1 and\n"
	if wrong := askText(t, text); wrong != api.OK {
		t.Errorf("Parse(%q): got %v", text, wrong)
	}
	for i := range len(text) {
		noParse(t, text[:i], api.ErrSyntax)
	}
	for _, behind := range []string{"\n", " ", "\r\n", "\x00", "sub A B\n", "sub A B", "x", text[:10]} {
		noParse(t, text+behind, api.ErrSyntax)
		noParse(t, "sub AB C\n"+text+behind, api.ErrSyntax)
	}
	// The line of the Code is the last one; whatever is ahead of it is an atom's.
	noParse(t, text+text, api.ErrSyntax)
	noParse(t, "\n"+text, api.ErrSyntax)
	noParse(t, "code 0\nsub A B\n", api.ErrSyntax)
	noParse(t, "sub AB C\ncode 0", api.ErrSyntax)
	noParse(t, strings.ReplaceAll(text, "\n", "\r\n"), api.ErrSyntax)
	noParse(t, strings.ReplaceAll(text, "\n", "\r"), api.ErrSyntax)
	noParse(t, strings.ReplaceAll(text, "\n", "\n\n"), api.ErrSyntax)
}

// TestLineByLine: chapter 3's error of the first line that has one, whichever it is, ahead of what Check says.
func TestLineByLine(t *testing.T) {
	codes := []string{"code 0\n", "code\n", "code 9\n", "code 0 0\n", "code and\n", "code" + strings.Repeat(" 0", 21) + "\n"}
	for _, c := range wrongLines {
		for _, code := range codes {
			noParse(t, c.line+"\n"+code, c.wrong)
			for many := range 9 {
				noParse(t, strings.Repeat("sub A B\n", many)+c.line+"\n"+code, c.wrong)
				noParse(t, c.line+"\n"+strings.Repeat("sub A B\n", many)+code, c.wrong)
			}
			for _, other := range wrongLines {
				noParse(t, c.line+"\n"+other.line+"\n"+code, c.wrong)
				noParse(t, "most B 2\n"+c.line+"\nsub A B\n"+other.line+"\n"+code, c.wrong)
			}
		}
	}
}

// TestChecked: what is written as it is to be, and is no formula.
func TestChecked(t *testing.T) {
	for _, c := range []struct {
		text  string
		wrong api.Errno
	}{
		{"code\n", api.ErrNone},
		{"code 0\n", api.ErrNone},
		{"code and\n", api.ErrNone},
		{"code 0" + strings.Repeat(" no", 20) + "\n", api.ErrNone},
		{"sub A B\ncode\n", api.ErrNone},
		{strings.Repeat("sub A B\n", 7) + "code\n", api.ErrNone},
		{strings.Repeat("sub A B\n", 7) + "code 0\n", api.ErrFull},
		{strings.Repeat("sub A B\n", 7) + "code 9 and\n", api.ErrFull},
		{"sub A B\ncode 0" + strings.Repeat(" no", 20) + "\n", api.ErrFull},
		{"sub A B\ncode" + strings.Repeat(" 9", 21) + "\n", api.ErrFull},
		{"sub A B\ncode 1\n", api.ErrRange},
		{"sub A B\ncode 6\n", api.ErrRange},
		{"sub A B\ncode 7\n", api.ErrRange},
		{"sub A B\ncode 8\n", api.ErrRange},
		{"sub A B\ncode 9\n", api.ErrRange},
		{"sub A B\ncode and 1\n", api.ErrRange},
		{strings.Repeat("sub A B\n", 6) + "code 6\n", api.ErrRange},
		{strings.Repeat("sub A B\n", 6) + "code 5\n", api.OK},
		{"sub A B\ncode 0 0\n", api.ErrShape},
		{"sub A B\ncode and\n", api.ErrShape},
		{"sub A B\ncode or\n", api.ErrShape},
		{"sub A B\ncode no\n", api.ErrShape},
		{"sub A B\ncode then\n", api.ErrShape},
		{"sub A B\ncode no 0\n", api.ErrShape},
		{"sub A B\ncode 0 and\n", api.ErrShape},
		{"sub A B\ncode 0 0 and 0\n", api.ErrShape},
		{"sub A B\ncode 0 0 or or\n", api.ErrShape},
	} {
		if got := askText(t, c.text); got != c.wrong {
			t.Errorf("%q: got %v, want %v", c.text, got, c.wrong)
		}
	}
}

// TestEveryByte: a byte more, another one, or one fewer, at every place of a right text.
func TestEveryByte(t *testing.T) {
	for _, text := range []string{"sub AB+ C~\ncode 0\n", "least A 12\nnomore A B -1\ncode 0 no 1 then\n", "same A 1\nmost C 0\nsub B 0\ncode 2 1 and 0 or\n"} {
		for i := range len(text) + 1 {
			for k := range 256 {
				one := string([]byte{byte(k)})
				askText(t, text[:i]+one+text[i:])
				if i < len(text) {
					askText(t, text[:i]+one+text[i+1:])
				}
			}
			if i < len(text) {
				askText(t, text[:i]+text[i+1:])
			}
		}
	}
}

// TestPieces: chosen pieces of texts, put together, and of right texts, in any order.
func TestPieces(t *testing.T) {
	choose := chooser()
	pieces := []string{"\n", "\n", " ", "code", "code 0", "\ncode 0 0 and\n", "\ncode 0\n", "\ncode 1\n", " 0", " 1", " and", " or", " no", " then", "sub A B\n", "least AB 1\n", "most A 3", "10", "a", "\xff", "\r"}
	told := map[api.Errno]int{}
	for range 200000 {
		text := ""
		for range choose(8) {
			text += pieces[choose(len(pieces))]
		}
		told[askText(t, text)]++
	}
	for _, wrong := range []api.Errno{api.OK, api.ErrSyntax, api.ErrShape, api.ErrNone, api.ErrRange} {
		if told[wrong] < 20 {
			t.Errorf("too few that say %v: %d", wrong, told[wrong])
		}
	}
	for range 20000 {
		texts, code := chosen(choose)
		lines := strings.SplitAfter(written(texts, code), "\n")
		i, j := choose(len(lines)), choose(len(lines))
		lines[i], lines[j] = lines[j], lines[i]
		askText(t, strings.Join(lines, ""))
		askText(t, strings.Join(slices.Delete(lines, i, i+1), ""))
	}
}

func TestVeryLong(t *testing.T) {
	const many = 1 << 20
	noParse(t, strings.Repeat("\n", many), api.ErrSyntax)
	noParse(t, strings.Repeat(" ", many), api.ErrSyntax)
	noParse(t, strings.Repeat(" ", many)+"\n", api.ErrSyntax)
	noParse(t, strings.Repeat("code", many)+"\n", api.ErrSyntax)
	noParse(t, "code"+strings.Repeat(" ", many)+"\n", api.ErrSyntax)
	noParse(t, "code "+strings.Repeat("0", many)+"\n", api.ErrSyntax)
	noParse(t, "sub A B\ncode"+strings.Repeat(" 0", many)+"\n", api.ErrFull)
	noParse(t, "sub A B\ncode"+strings.Repeat(" 0", many)+" 10\n", api.ErrSyntax)
	noParse(t, strings.Repeat("sub A B\n", many)+"code 0\n", api.ErrFull)
	noParse(t, strings.Repeat("sub A B\n", many)+"least A 21\ncode 0\n", api.ErrRange)
	noParse(t, strings.Repeat("\n", many)+"code 0\n", api.ErrSyntax)
	noParse(t, "sub A "+strings.Repeat("A", many)+"\ncode 0\n", api.ErrFull)
}

// spare has a list, with wrong numbers in the memory behind its length.
func spare(list []int) []int {
	return append(slices.Clone(list), 99, -99, 12)[:len(list)]
}

// given is a formula with something wrong in the room behind its lists, the same one each time.
func given(t *testing.T) api.Form {
	t.Helper()
	f := of(t, []string{"sub A B", "nomore C A -1", "least AB+ 2"}, 0, 1, and, 2, no, or)
	f.Code = spare(f.Code)
	for i, a := range f.Atoms {
		f.Atoms[i].S, f.Atoms[i].T = spare(a.S), spare(a.T)
	}
	f.Atoms = append(slices.Clip(f.Atoms), api.Atom{What: 9})[:len(f.Atoms)]
	return f
}

// whole is a formula with what lies behind its lists.
func whole(f api.Form) api.Form {
	f.Code, f.Atoms = f.Code[:cap(f.Code)], slices.Clone(f.Atoms[:cap(f.Atoms)])
	for i, a := range f.Atoms {
		f.Atoms[i].S, f.Atoms[i].T = a.S[:cap(a.S)], a.T[:cap(a.T)]
	}
	return f
}

// TestNothingIsWritten: into a list that is handed in, or what lies behind it; and that is not read.
func TestNothingIsWritten(t *testing.T) {
	f, keep := given(t), given(t)
	askPrint(t, f, "sub A B\nnomore C A -1\nleast AB+ 2\ncode 0 1 and 2 no or\n", api.OK)
	if !reflect.DeepEqual(whole(f), whole(keep)) {
		t.Errorf("got %v, want %v", whole(f), whole(keep))
	}
}

// TestParseIsFresh: no list of an answer shares memory with another one, of the same answer or of the next.
func TestParseIsFresh(t *testing.T) {
	text := "nomore AB+ AB+ 3\nnomore AB+ AB+ 3\nsame AB+ AB+\ncode 0 1 and 2 or\n"
	one, _ := Parse(text)
	two, _ := Parse(text)
	lists := [][]int{one.Code}
	for _, a := range one.Atoms {
		lists = append(lists, a.S, a.T)
	}
	for i, list := range lists {
		list = list[:cap(list)]
		for k := range list {
			list[k] = 100 + i
		}
	}
	for i, list := range lists {
		for _, n := range list {
			if n != 100+i {
				t.Errorf("list %d: got %v", i, list)
			}
		}
	}
	clear(one.Atoms)
	want := of(t, []string{"nomore AB+ AB+ 3", "nomore AB+ AB+ 3", "same AB+ AB+"}, 0, 1, and, 2, or)
	if !equal(two, want) {
		t.Errorf("another answer: got %v, want %v", two, want)
	}
	askParse(t, text, want, api.OK)
}

// TestSameAgain: what is answered does not hang on calls before, nor on that one of them was wrong.
func TestSameAgain(t *testing.T) {
	f := of(t, []string{"sub A B"}, 0, no)
	for range 3 {
		askBoth(t, f, "sub A B\ncode 0 no\n")
		askPrint(t, api.Form{}, "", api.ErrNone)
		noParse(t, "sub A B\ncode 0 not\n", api.ErrSyntax)
		noParse(t, "sub A BC\ncode 0\n", api.ErrShape)
		noParse(t, "sub A B\ncode 1\n", api.ErrRange)
	}
}
