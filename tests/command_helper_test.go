package tests

import (
	"fmt"
	"regexp"
	"slices"
	"strings"
	"testing"

	"loop.example/parametric/impl"
)

// lineForm tells commands from other lines.
var lineForm = regexp.MustCompile(`(?s)\A(?:(term|lib|app|has|mean|count) (.*)|(step|normal|unfold|show|type|numeral))\z`)

// notFound stands for a number that the tests take too long to find.
const notFound = "?"

// A plainBench does what lines tell in the tests' own way, with a term as it is written.
type plainBench struct {
	t    *testing.T
	term oneTerm
}

// take makes a text the term, if it is not empty.
func (b *plainBench) take(text string) string {
	if text == "" {
		return "no"
	}
	b.term = read(text)
	return "ok"
}

// kindOf returns the principal type of a text, "" if it has none.
func (b *plainBench) kindOf(text string) string {
	if !formIsTerm(text) {
		return ""
	}
	return kindText(b.t, read(text))
}

// numberOr returns the output for a number, which may be less than 0 for none.
func numberOr(n int) string {
	if n < 0 {
		return "no"
	}
	return fmt.Sprint(n)
}

func (b *plainBench) answer(line string) string {
	found := lineForm.FindStringSubmatch(line)
	if found == nil {
		return "what"
	}
	switch rest := found[2]; found[1] + found[3] {
	case "term":
		if b.kindOf(rest) == "" {
			return "no"
		}
		return b.take(rest)
	case "lib":
		return b.take(plainLibrary(rest))
	case "app":
		return b.take(b.applied(rest))
	case "step":
		return b.take(b.term.stepText(0))
	case "normal":
		return b.take(b.term.normalText())
	case "unfold":
		return b.take(unfoldText(b.term))
	case "show":
		return b.term.String()
	case "type":
		return kindText(b.t, b.term)
	case "has":
		if impl.TypeValid(rest) && plainHad(b.term, readType(rest)) {
			return "yes"
		}
		return "no"
	case "mean":
		return b.mean(strings.Index("0123456789", rest), len(rest))
	case "count":
		return numberOr(plainCount(kindText(b.t, b.term), rest))
	}
	return numberOr(plainNumber(b.term))
}

// plainLibrary returns the term of the library with a name, "" for other texts.
func plainLibrary(name string) string {
	for _, c := range libraryOfDocument() {
		if c.name == name {
			return read(c.text).canon().String()
		}
	}
	return ""
}

// applied returns the term applied to another one, "" if one of both or the whole has no type.
func (b *plainBench) applied(rest string) string {
	if b.kindOf(b.term.String()) == "" || b.kindOf(rest) == "" {
		return ""
	}
	whole := made("app", b.term, read(rest))
	if b.kindOf(whole.String()) == "" {
		return ""
	}
	return whole.canon().String()
}

// plainHad tells whether a term has a type.
func plainHad(x oneTerm, kind oneType) bool {
	plain, ok := x.unfolded(100000)
	if !ok {
		return false
	}
	p := &plainTyping{puts: map[string]oneType{}}
	found, ok := p.kind(plain, map[string]oneType{})
	return ok && p.equal(found, kind.fixed())
}

// mean returns the output for a size that has a number of digits.
func (b *plainBench) mean(size int, digits int) string {
	if size < 0 || digits != 1 {
		return "no"
	}
	kind := kindText(b.t, b.term)
	m := &plainModel{sets: map[string]*plainSet{}}
	for _, name := range readType(kind).names() {
		if size < 1 || size > 4 {
			return "no"
		}
		m.names, m.sizes = append(m.names, name), append(m.sizes, size)
	}
	element, ok := plainMean(b.term, kind, m)
	if !ok {
		return "no"
	}
	if element < 0 {
		return notFound
	}
	return fmt.Sprint(element)
}

// plainCounts keeps what plainCount found, as it takes long.
var plainCounts = map[string]int{}

// plainCount returns how many elements of a type are parametric for a size, or -1.
func plainCount(kind string, size string) int {
	n := slices.Index([]string{"1", "2", "3"}, size) + 1
	x := readType(kind)
	if n < 1 || slices.ContainsFunc(x.names(), func(name string) bool { return name != "a" }) {
		return -1
	}
	count := modelOf("a" + size).count(x)
	if count < 0 || count > 300 {
		return -1
	}
	if _, ok := plainCounts[kind+size]; !ok {
		plainCounts[kind+size] = len(paramBetween(x, n, n).list())
	}
	return plainCounts[kind+size]
}

// plainExecute returns the lines of the output that a script is to have.
func plainExecute(t *testing.T, script string) []string {
	t.Helper()
	if len(script) > 700 {
		return []string{"too long", ""}
	}
	b := &plainBench{t: t, term: lam("x0", word("x0"))}
	output := []string{}
	lines := strings.Split(script, "\n")
	for _, line := range lines[:len(lines)-1] {
		output = append(output, b.answer(line))
	}
	return append(output, fmt.Sprint("atoms ", b.term.size()), "")
}

// checkPlain compares the output of a script with what the tests find on their own, and returns both in lines.
func checkPlain(t *testing.T, script string) []string {
	t.Helper()
	got, want := strings.Split(impl.Execute(script), "\n"), plainExecute(t, script)
	for i, line := range want {
		if line == notFound && i < len(got) {
			want[i] = got[i]
		}
	}
	if !slices.Equal(got, want) {
		t.Errorf("Execute(%q) returns\n%q\nand not\n%q", script, got, want)
	}
	return got
}

// lineEnds is what stands behind lines in the texts of checkScript, as no line that they ask for has it.
const lineEnds = ";"

// checkScript compares the output of a script of complete lines, which have lineEnds between them, with that which is wanted.
func checkScript(t *testing.T, script string, want string) {
	t.Helper()
	checkExecute(t, strings.ReplaceAll(script+lineEnds, lineEnds, "\n"), strings.ReplaceAll(want+lineEnds, lineEnds, "\n"))
}

func checkExecute(t *testing.T, script string, want string) {
	t.Helper()
	if got := impl.Execute(script); got != want {
		t.Errorf("Execute(%q) returns\n%q\nand not\n%q", short(script), short(got), short(want))
	}
}

// checkScriptByHand does what checkScript does, and compares what is wanted with what the tests find on their own.
func checkScriptByHand(t *testing.T, script string, want string) {
	t.Helper()
	checkScript(t, script, want)
	plain := plainExecute(t, strings.ReplaceAll(script+lineEnds, lineEnds, "\n"))
	if found := strings.Join(plain[:len(plain)-1], lineEnds); found != want {
		t.Errorf("the test finds %q for %q and not %q", found, script, want)
	}
}

// benchTexts returns terms with types, in which names are not as they are in canonical terms, so that it shows if one is written again.
func benchTexts() []string {
	return []string{
		"(lam y y)", "true", "(lam f (lam y (app f (app f y))))", "(let i (lam z z) (pair (app i true) i))", "(app (lam b (if b false true)) true)", "(pair (lam u u) (lam u (lam v u)))", "(let y true (lam x0 false))",
	}
}

// checkAnswer checks that a line has the same output for all terms, and that it changes nothing.
func checkAnswer(t *testing.T, line string, want string) {
	t.Helper()
	for _, s := range benchTexts() {
		twice := strings.Repeat(line+"\nshow\n", 2)
		checkExecute(t, "term "+s+"\n"+twice, fmt.Sprint("ok\n", strings.Repeat(want+"\n"+s+"\n", 2), "atoms ", read(s).size(), "\n"))
	}
}

// inLines returns those of some texts that fit in a line of a script.
func inLines(texts []string) []string {
	return slices.DeleteFunc(texts, func(s string) bool { return len(s) > 200 || strings.Contains(s, "\n") })
}

// Texts that are no terms and no types in lines, made once, as some others of those are long.
var (
	badTermsInLines = inLines(badTerms())
	badTypesInLines = inLines(badTypes())
)

func (d *dice) oneOf(texts ...string) string {
	return texts[d.below(len(texts))]
}

// termText returns a text to be taken or applied: mostly a term with a type.
func (d *dice) termText() string {
	switch d.below(14) {
	case 0:
		return d.closed(3+d.below(12), nil).String()
	case 1:
		return d.busy(5+d.below(20), nil).String()
	case 2:
		x, _ := d.overNames()
		return x.String()
	case 3, 4:
		return d.typed(d.typeOf([]int{1, 3, 3, 5}[d.below(4)], "o"), nil, 1+d.below(3)).String()
	case 5:
		return d.oneOf("x0", "(lam x y)", "(app f true)", "(pair x0 x0)", "(lam x0 (app x1 x0))", "(lam x (app x x))", "(app true true)", "(fst (lam x x))", "(if (lam x x) true true)", "(fst true)", omegaTerm)
	case 6:
		return d.oneOf(badTermsInLines...)
	case 7:
		return numeral(d.below(9))
	}
	return d.oneOf(append(libraryTexts(), "true", "false", "true", "false", "(lam x x)", "(pair true false)", notTerm, numeral(2), numeral(3), "(pair (lam x x) true)", "(lam x (lam y x))", "(lam x (lam y (if x y false)))", "(lam x (pair x x))")...)
}

// typeText returns a text to be asked for as a type.
func (d *dice) typeText() string {
	switch d.below(8) {
	case 0:
		return d.oneOf(badTypesInLines...)
	case 1, 2:
		return d.typeOf(1+2*d.below(4), "oab").String()
	}
	return d.oneOf("o", "(> a a)", "(> o o)", "(> c c)", "(* o o)", "(> (> a a) (> a a))", "(> (> o o) (> o o))", "(> (* a b) (* b a))", "(* o (> a a))", "(> a (> b a))", "(> o (> o o))", "(> (> a b) (> a b))", "a")
}

// commandLine returns a line that is a command.
func (d *dice) commandLine() string {
	switch d.below(16) {
	case 0, 1:
		return "term " + d.termText()
	case 2:
		names := []string{"one more", "", "three", "succ ", "Add"}
		for _, c := range libraryOfDocument() {
			names = append(names, c.name, c.name)
		}
		return "lib " + d.oneOf(names...)
	case 3, 4, 5:
		return "app " + d.termText()
	case 6:
		return "has " + d.typeText()
	case 7, 8:
		return "mean " + d.oneOf("1", "2", "2", "3", "4", "0", "5", "9", "", "22", "-1", "x", "٢")
	case 9, 10:
		return "count " + d.oneOf("1", "2", "2", "3", "3", "0", "4", "9", "", "12", "-2", "+2")
	}
	return d.oneOf("step", "normal", "unfold", "show", "type", "numeral")
}

// scriptLine returns a line that is mostly a command.
func (d *dice) scriptLine() string {
	line := d.commandLine()
	if d.below(8) > 0 {
		return line
	}
	place := d.below(len(line))
	switch d.below(7) {
	case 0:
		return " " + line
	case 1:
		return line + " "
	case 2:
		return strings.Replace(line, " ", "  ", 1)
	case 3:
		return strings.Replace(line, " ", "", 1)
	case 4:
		return strings.ToUpper(line[:place+1]) + line[place+1:]
	case 5:
		return line[:place] + d.oneOf("\xff", "\x00", "\r", "\t", "a", "(", " ") + line[place:]
	}
	return line[:place]
}

// script returns a script of complete lines with room for more bytes.
func (d *dice) script(room int) string {
	text := ""
	for range 1 + d.below(30) {
		line := d.scriptLine() + "\n"
		if len(text)+len(line)+room <= impl.MaxScript {
			text += line
		}
	}
	return text
}
