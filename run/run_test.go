package run

import (
	"fmt"
	"regexp"
	"slices"
	"strings"
	"testing"

	"vennhouse/api"
	"vennhouse/atom"
	"vennhouse/log"
	"vennhouse/plain"
	"vennhouse/term"
)

// The numbers as the chapter and package api write them, so that the names are held against them, too.
const (
	maxRun   = 3000
	maxForms = 6
	someOf   = 4
)

// askRun a text.
func askRun(t *testing.T, text, want string) {
	t.Helper()
	if got := Run(text); got != want {
		t.Errorf("Run(%.300q): got %.300q, want %.300q", text, got, want)
	}
}

// exchange is a line, and what it is answered.
type exchange struct{ line, answer string }

// askAll lines of one text, each ended.
func askAll(t *testing.T, all ...exchange) {
	t.Helper()
	var text, want strings.Builder
	for _, e := range all {
		text.WriteString(e.line + "\n")
		want.WriteString(e.answer + "\n")
	}
	askRun(t, text.String(), want.String())
}

// bad lines all, between lines that tell whether they changed anything.
func bad(t *testing.T, lines ...string) {
	t.Helper()
	for _, line := range lines {
		askAll(t,
			exchange{"say least A 2", "ok"}, exchange{line, "bad"},
			exchange{"many", "1"}, exchange{"span A", "2 4"}, exchange{"say most A 2", "ok"})
		askRun(t, line+"\n", "bad\n")
		if line != "" {
			askRun(t, line, "bad\n")
		}
	}
}

func TestNumbersOfTheChapter(t *testing.T) {
	got := [...]int{api.MaxRun, api.MaxForms, things}
	want := [...]int{maxRun, maxForms, someOf}
	if got != want {
		t.Errorf("numbers: got %v, want %v", got, want)
	}
}

// TestLines: cut at byte 10 alone; a last piece is a line without it, too, unless it is empty.
func TestLines(t *testing.T) {
	for _, c := range []struct{ text, want string }{
		{"", ""},
		{"\n", "bad\n"},
		{"\n\n", "bad\nbad\n"},
		{"many", "0\n"},
		{"many\n", "0\n"},
		{"many\nmany", "0\n0\n"},
		{"many\nmany\n", "0\n0\n"},
		{"many\n\nmany\n", "0\nbad\n0\n"},
		{"\nmany", "bad\n0\n"},
		{"many\n\n", "0\nbad\n"},
		{"many\r\nmany\r\n", "bad\nbad\n"},
		{"many\rmany", "bad\n"},
		{"many\x0bmany\n", "bad\n"},
		{"many\x00\nmany\n", "bad\n0\n"},
		{"many\u0085many\u2028many\n", "bad\n"},
		{" ", "bad\n"},
		{"\r", "bad\n"},
		{"\xff\n\xc3", "bad\nbad\n"},
	} {
		askRun(t, c.text, c.want)
	}
}

// TestNothingSaid: there are four things, and all that always holds, and no more, is sure.
func TestNothingSaid(t *testing.T) {
	askAll(t,
		exchange{"many", "0"},
		exchange{"worlds", "4096"},
		exchange{"span A", "0 4"}, exchange{"span AB*C-", "0 4"},
		exchange{"span 0", "0 0"}, exchange{"span 1", "4 4"}, exchange{"span AA~+", "4 4"}, exchange{"span AA-", "0 0"},
		exchange{"ask least 1 4", "yes"}, exchange{"ask most 1 4", "yes"}, exchange{"ask least 1 5", "no"}, exchange{"ask most 1 3", "no"},
		exchange{"ask sub AB* A", "yes"}, exchange{"ask sub A AB*", "open"}, exchange{"ask same A A~", "no"},
		exchange{"ask same A B", "open"}, exchange{"ask nomore A B 4", "yes"}, exchange{"ask nomore A B 3", "open"}, exchange{"ask nomore A B -5", "no"},
		exchange{"ask least A -20", "yes"}, exchange{"ask most A -1", "no"},
		exchange{"many", "0"}, exchange{"worlds", "4096"})
}

// TestSaid: what was said, to hold or not to, counts for all that is asked behind it.
func TestSaid(t *testing.T) {
	askAll(t,
		exchange{"ask sub A B", "open"},
		exchange{"say sub A B", "ok"}, exchange{"many", "1"},
		exchange{"ask sub A B", "yes"}, exchange{"worlds", "1296"},
		exchange{"deny most A 1", "ok"}, exchange{"many", "2"},
		exchange{"span A", "2 4"}, exchange{"span B", "2 4"}, exchange{"span BA-", "0 2"}, exchange{"span AB-", "0 0"}, exchange{"span B~", "0 2"},
		exchange{"ask least A 2", "yes"}, exchange{"ask most B 1", "no"}, exchange{"ask least B 3", "open"},
		exchange{"deny sub B A", "ok"}, exchange{"many", "3"},
		exchange{"span A", "2 3"}, exchange{"span B", "3 4"}, exchange{"ask least B 3", "yes"}, exchange{"ask same A B", "no"},
		exchange{"say same BC* 0", "ok"}, exchange{"span C", "0 1"},
		exchange{"say least C 1", "ok"}, exchange{"span C", "1 1"}, exchange{"span A", "2 2"}, exchange{"span B", "3 3"},
		exchange{"worlds", "12"}, exchange{"ask nomore A B -1", "yes"}, exchange{"many", "5"})
}

// TestClash: told by its name; it is not said, whatever way round, and what fits then still is.
func TestClash(t *testing.T) {
	askAll(t,
		exchange{"say least A 5", "ErrClash"}, exchange{"deny most A 4", "ErrClash"}, exchange{"deny least 1 4", "ErrClash"}, exchange{"deny sub A A", "ErrClash"},
		exchange{"many", "0"}, exchange{"worlds", "4096"}, exchange{"ask least A 1", "open"},
		exchange{"say least A 3", "ok"}, exchange{"say least B 3", "ok"},
		exchange{"say same AB* 0", "ErrClash"}, exchange{"deny least AB* 2", "ErrClash"}, exchange{"many", "2"},
		exchange{"say most AB* 2", "ok"}, exchange{"many", "3"}, exchange{"worlds", "192"},
		exchange{"say least A 4", "ErrClash"}, exchange{"span A", "3 3"})
}

// TestFull: more than six are not said, though they fit; that they clash is not told then; all else is answered as ever.
func TestFull(t *testing.T) {
	var all []exchange
	for i := range maxForms {
		all = append(all, exchange{[]string{"say least A 1", "deny most A 0"}[i%2], "ok"})
	}
	all = append(all,
		exchange{"say least A 1", "ErrFull"}, exchange{"deny most A 0", "ErrFull"}, exchange{"say least B 1", "ErrFull"},
		exchange{"say least A 5", "ErrFull"}, exchange{"deny least A 1", "ErrFull"},
		exchange{"say least A", "bad"}, exchange{"say least A 21", "bad"},
		exchange{"many", "6"}, exchange{"worlds", "3840"}, exchange{"span A", "1 4"},
		exchange{"ask least A 1", "yes"}, exchange{"ask least B 1", "open"})
	askAll(t, all...)
	deny := []exchange{
		{"deny most A 0", "ok"}, {"deny most B 1", "ok"}, {"deny least C 2", "ok"},
		{"deny sub A B", "ok"}, {"deny same B 1", "ok"}, {"deny nomore B C 1", "ok"},
		{"deny sub B A", "ErrFull"}, {"many", "6"}, {"ask sub A B", "no"}, {"span C", "0 1"}, {"span B", "2 3"}, {"span A", "1 4"},
	}
	askAll(t, deny...)
}

// TestBad: a line that has not its words, or whose atom or term cannot be read, whatever is wrong with it, and any other.
func TestBad(t *testing.T) {
	bad(t, "", " ", "  ", "x", "ok", "bad", "code 0", "sub A B", "A", "least A 1",
		"say", "deny", "ask", "span", "say ", "deny ", "ask ", "span ",
		"worlds ", " worlds", "worlds 4", "worlds worlds", "world", "worldss", "Worlds", "WORLDS", "worlds\t", "worlds\r",
		"many ", " many", "many 1", "many many", "man", "manyy", "Many", "many\x00",
		"Say sub A B", "SAY sub A B", "says sub A B", "sa sub A B", " say sub A B", "say  sub A B", "say sub  A B", "say sub A  B", "say sub A B ",
		"say\tsub A B", "say sub\tA B", "say sub A\tB", "say sub A B\r", "saysub A B", "say subA B", "say sub AB", "say say sub A B",
		"deny  most A 1", "deny most A 1 ", "Deny most A 1", "denymost A 1", "deny no most A 1",
		"ask  most A 1", "ask most A 1 ", "Ask most A 1", "askmost A 1", "ask most A", "ask A", "ask",
		"span  A", "span A ", "span A B", "span a", "Span A", "spanA", "span sub A B", "span D", "span 2", "span A\x00",
	)
}

// TestBadWhatever: chapter 2's and chapter 3's errors, of all kinds, are told alike.
func TestBadWhatever(t *testing.T) {
	long := "A" + strings.Repeat("~", 12)
	for _, c := range []struct {
		text  string
		wrong api.Errno
	}{
		{"sub A D", api.ErrSyntax}, {"sub A B 0", api.ErrSyntax}, {"least A", api.ErrSyntax}, {"least A B", api.ErrSyntax},
		{"least A 01", api.ErrSyntax}, {"least A -0", api.ErrSyntax}, {"least A +1", api.ErrSyntax}, {"least A 100", api.ErrSyntax},
		{"more A 1", api.ErrSyntax}, {"Least A 1", api.ErrSyntax}, {"nomore A B", api.ErrSyntax},
		{"least  1", api.ErrNone}, {"sub  B", api.ErrNone}, {"sub A ", api.ErrNone},
		{"least " + long + " 1", api.ErrFull}, {"sub A " + long, api.ErrFull},
		{"least A 21", api.ErrRange}, {"nomore A B -21", api.ErrRange}, {"most A 99", api.ErrRange},
		{"least AB 1", api.ErrShape}, {"sub + A", api.ErrShape}, {"same A B~~+", api.ErrShape},
	} {
		if _, err := atom.Parse(c.text); plain.Told(err) != c.wrong {
			t.Errorf("atom.Parse(%q): got %v, want %v", c.text, plain.Told(err), c.wrong)
		}
		bad(t, "say "+c.text, "deny "+c.text, "ask "+c.text)
	}
	for text, wrong := range map[string]api.Errno{
		"": api.ErrNone, "x": api.ErrSyntax, "A B": api.ErrSyntax, long: api.ErrFull, "AB": api.ErrShape, "~": api.ErrShape, "A+": api.ErrShape,
	} {
		if _, err := term.Parse(text); plain.Told(err) != wrong {
			t.Errorf("term.Parse(%q): got %v, want %v", text, plain.Told(err), wrong)
		}
		bad(t, "span "+text)
	}
	askRun(t, "span A"+strings.Repeat("~", 11), "0 4\n")
	askRun(t, "say least A"+strings.Repeat("~", 11)+" 4\nspan A", "ok\n0 0\n")
}

// TestEveryByte: none but the chapter's may stand at any place of a line.
func TestEveryByte(t *testing.T) {
	for _, line := range []string{"say sub A B", "deny least A 1", "ask nomore A B 2", "span AB+", "worlds", "many"} {
		for at := range len(line) + 1 {
			for b := range 256 {
				put := line[:at] + string([]byte{byte(b)}) + line[at:]
				played(t, put)
				if at < len(line) {
					played(t, line[:at]+string([]byte{byte(b)})+line[at+1:])
				}
			}
		}
	}
}

// TestTooLong: by its bytes alone, and then nothing else is answered.
func TestTooLong(t *testing.T) {
	askRun(t, strings.Repeat("\n", maxRun), strings.Repeat("bad\n", maxRun))
	askRun(t, strings.Repeat("x", maxRun), "bad\n")
	askRun(t, strings.Repeat("many\n", maxRun/5), strings.Repeat("0\n", maxRun/5))
	for _, text := range []string{
		strings.Repeat("\n", maxRun+1), strings.Repeat("x", maxRun+1), strings.Repeat("many\n", maxRun/5) + "\n", strings.Repeat("many\n", maxRun/5) + "m",
		strings.Repeat("é", maxRun/2) + "x", strings.Repeat("say least A 5\n", maxRun), strings.Repeat("\x00", 1<<20),
	} {
		askRun(t, text, "too long\n")
	}
	// As many bytes as may be, though fewer runes.
	askRun(t, strings.Repeat("é", maxRun/2), "bad\n")
}

// TestManyLines: as many as there can be of each kind, when as many as may be were said.
func TestManyLines(t *testing.T) {
	said := "deny sub A B\ndeny sub B C\ndeny sub C A\ndeny least A 4\ndeny nomore C B 1\ndeny same AB+ C\n"
	for _, line := range []string{"worlds", "many", "span A", "ask sub 0 1", "say sub A A"} {
		many := (maxRun - len(said)) / (len(line) + 1)
		got := Run(said + strings.Repeat(line+"\n", many))
		want := strings.Repeat("ok\n", maxForms) + strings.Repeat(modelled(said + line)[maxForms]+"\n", many)
		if got != want {
			t.Errorf("%q: got %.100q, want %.100q", line, got, want)
		}
	}
}

// TestErrors: what is wrong with a line that cannot be read is not told, though it is an Errno, too; all else is told by its name.
func TestErrors(t *testing.T) {
	l, err := log.New(things)
	if err != nil {
		t.Fatalf("New: got %v", err)
	}
	d := desk{l}
	for line, want := range map[string]string{"x": "bad", "say x": "bad", "span x": "bad", "ask x": "bad", "deny sub 0 0": "ErrClash"} {
		answer, err := d.answer(line)
		if got := told(answer, err); answer != "" || err == nil || got != want {
			t.Errorf("%q: got %q %v %q, want %q", line, answer, err, got, want)
		}
	}
	for e := api.ErrRange; e <= api.ErrFree; e++ {
		if got := told("", e); got != e.Error() {
			t.Errorf("told of %v: got %q", e, got)
		}
		if got := told("", badLine{e}); got != "bad" || plain.Told(badLine{e}) != e {
			t.Errorf("told of a bad line, %v: got %q %v", e, got, plain.Told(badLine{e}))
		}
	}
}

// every world of four things.
var every = func() (out []api.World) {
	for n := range 1 << (3 * someOf) {
		out = append(out, api.World{Things: someOf, Has: [3]int{n & 15, n >> 4 & 15, n >> 8}})
	}
	return out
}()

// session is a model of its own: the worlds, one by one, in which all that was said holds.
type session struct {
	left []api.World
	many int
}

// where an atom holds, and where it does not.
func (s *session) where(a api.Atom) (in, out []api.World) {
	for _, w := range s.left {
		if is, err := atom.Holds(a, w); err != nil {
			panic(err)
		} else if is {
			in = append(in, w)
		} else {
			out = append(out, w)
		}
	}
	return in, out
}

// note that so many worlds are left, if there is one.
func (s *session) note(left []api.World) string {
	if s.many == maxForms {
		return "ErrFull"
	}
	if len(left) == 0 {
		return "ErrClash"
	}
	s.left, s.many = left, s.many+1
	return "ok"
}

// between how many things a term has.
func (s *session) between(its []int) string {
	least, most := someOf+1, -1
	for _, w := range s.left {
		v, err := term.Value(its, w)
		if err != nil {
			panic(err)
		}
		n := strings.Count(fmt.Sprintf("%b", v), "1")
		least, most = min(least, n), max(most, n)
	}
	return fmt.Sprint(least, " ", most)
}

// words of a line that says something of an atom, or asks for a term.
var words = regexp.MustCompile(`(?s)\A(say|deny|ask|span) (.*)\z`)

// answer a line.
func (s *session) answer(line string) string {
	if line == "many" {
		return fmt.Sprint(s.many)
	}
	if line == "worlds" {
		return fmt.Sprint(len(s.left))
	}
	m := words.FindStringSubmatch(line)
	if m == nil {
		return "bad"
	}
	if m[1] == "span" {
		its, err := term.Parse(m[2])
		if err != nil {
			return "bad"
		}
		return s.between(its)
	}
	a, err := atom.Parse(m[2])
	if err != nil {
		return "bad"
	}
	in, out := s.where(a)
	switch {
	case m[1] == "say":
		return s.note(in)
	case m[1] == "deny":
		return s.note(out)
	case len(out) == 0:
		return "yes"
	case len(in) == 0:
		return "no"
	}
	return "open"
}

// modelled are the answers of the model.
func modelled(text string) (out []string) {
	s := session{left: every}
	lines := strings.Split(text, "\n")
	if lines[len(lines)-1] == "" {
		lines = lines[:len(lines)-1]
	}
	for _, line := range lines {
		out = append(out, s.answer(line))
	}
	return out
}

// played holds a text against the model, and tells what it is answered.
func played(t *testing.T, text string) []string {
	t.Helper()
	out := modelled(text)
	want := ""
	for _, answer := range out {
		want += answer + "\n"
	}
	askRun(t, text, want)
	return out
}

// chooser answers numbers from 0 to below n, one behind the other, always the same ones.
func chooser() func(n int) int {
	state := uint64(1)
	return func(n int) int {
		state = state*6364136223846793005 + 1442695040888963407
		return int(state >> 33 % uint64(n))
	}
}

// chosenTerm has up to so many signs.
func chosenTerm(choose func(n int) int, most int) string {
	text := string("ABCABC01"[choose(8)])
	for len(text)+2 <= most && choose(3) > 0 {
		if choose(3) == 0 {
			text += "~"
		} else {
			text += string("ABC01"[choose(5)]) + string("+*-"[choose(3)])
		}
	}
	return text
}

// chosenAtom of any kind.
func chosenAtom(choose func(n int) int) string {
	first, second := chosenTerm(choose, 7), chosenTerm(choose, 7)
	switch choose(5) {
	case 0:
		return "sub " + first + " " + second
	case 1:
		return "same " + first + " " + second
	case 2:
		return fmt.Sprint("least ", first, " ", choose(7)-1)
	case 3:
		return fmt.Sprint("most ", first, " ", choose(7)-1)
	}
	return fmt.Sprint("nomore ", first, " ", second, " ", choose(9)-4)
}

// chosenLine of any kind; now and then one that is hurt.
func chosenLine(choose func(n int) int) string {
	var line string
	switch k := choose(12); {
	case k < 3:
		line = "say " + chosenAtom(choose)
	case k < 5:
		line = "deny " + chosenAtom(choose)
	case k < 8:
		line = "ask " + chosenAtom(choose)
	case k < 10:
		line = "span " + chosenTerm(choose, 11)
	default:
		line = []string{"worlds", "many"}[k-10]
	}
	if choose(9) == 0 {
		at := choose(len(line))
		line = line[:at] + []string{"", " ", "x", "\r", "~", "0"}[choose(6)] + line[at+1:]
	}
	return line
}

// chosenText has some lines; the last one may not be ended.
func chosenText(choose func(n int) int, most int) string {
	var lines []string
	for range 1 + choose(most) {
		lines = append(lines, chosenLine(choose))
	}
	return strings.Join(lines, "\n") + []string{"", "\n"}[choose(2)]
}

// TestPlayed: against every world of four things.
func TestPlayed(t *testing.T) {
	choose, kinds := chooser(), map[string]int{}
	for range 300 {
		for _, answer := range played(t, chosenText(choose, 30)) {
			kinds[answer]++
		}
	}
	for _, answer := range []string{"ok", "bad", "yes", "no", "open", "ErrFull", "ErrClash", "0", "6", "0 4", "1 3", "4096"} {
		if kinds[answer] < 5 {
			t.Errorf("too few of %q: %v", answer, kinds)
		}
	}
}

// TestBeginning: what the first lines are answered does not hang on those behind, whether the last of the first ones is ended or not.
func TestBeginning(t *testing.T) {
	choose := chooser()
	for range 60 {
		text := chosenText(choose, 20)
		whole := Run(text)
		for at := range len(text) + 1 {
			first := text[:at]
			ended := first == "" || strings.HasSuffix(first, "\n")
			// A last line that is cut may be another one.
			if !ended && at < len(text) && text[at] != '\n' {
				continue
			}
			lines := strings.Count(first, "\n")
			if !ended {
				lines++
			}
			got := Run(first)
			if !strings.HasPrefix(whole, got) || strings.Count(got, "\n") != lines {
				t.Fatalf("Run(%q): got %q; of all of %q %q", first, got, text, whole)
			}
		}
	}
}

// TestBeginningOfLong: texts of which one piece more would be too long are answered as far as they go.
func TestBeginningOfLong(t *testing.T) {
	choose := chooser()
	for range 5 {
		var text string
		for {
			line := chosenLine(choose) + "\n"
			if len(text)+len(line) > maxRun {
				askRun(t, text+line, "too long\n")
				break
			}
			text += line
		}
		whole := played(t, text)
		half := len(whole) / 2
		lines := strings.SplitAfter(text, "\n")
		askRun(t, strings.Join(lines[:half], ""), strings.Join(whole[:half], "\n")+"\n")
	}
}

// TestSameAgain: nothing of a text is left for the next one, also of many at once.
func TestSameAgain(t *testing.T) {
	choose := chooser()
	var texts, want []string
	for range 30 {
		texts = append(texts, chosenText(choose, 20))
		want = append(want, Run(texts[len(texts)-1]))
	}
	for i := range slices.Backward(texts) {
		askRun(t, texts[i], want[i])
		askRun(t, "many\nworlds\n", "0\n4096\n")
	}
	got, done := make([]string, len(texts)), make(chan int)
	for i, text := range texts {
		go func() {
			got[i] = Run(text)
			done <- i
		}()
	}
	for range texts {
		<-done
	}
	if !slices.Equal(got, want) {
		t.Errorf("got %q, want %q", got, want)
	}
}
