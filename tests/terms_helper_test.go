package tests

import (
	"fmt"
	"regexp"
	"slices"
	"strings"

	"loop.example/parametric/impl"
)

// oneTerm is a term as a tree with names, of the tests' own, so that they lean neither on the program's reading nor on its depths.
type oneTerm struct {
	head string // the first atom, or the only one
	name string // what lam and let bind
	kids []oneTerm
}

func word(atom string) oneTerm {
	return oneTerm{head: atom}
}

func made(head string, kids ...oneTerm) oneTerm {
	return oneTerm{head: head, kids: kids}
}

func lam(name string, body oneTerm) oneTerm {
	return oneTerm{head: "lam", name: name, kids: []oneTerm{body}}
}

func let(name string, what oneTerm, body oneTerm) oneTerm {
	return oneTerm{head: "let", name: name, kids: []oneTerm{what, body}}
}

func (t oneTerm) String() string {
	if len(t.kids) == 0 {
		return t.head
	}
	text := "(" + t.head
	if t.name != "" {
		text += " " + t.name
	}
	for _, kid := range t.kids {
		text += " " + kid.String()
	}
	return text + ")"
}

func (t oneTerm) isName() bool {
	return len(t.kids) == 0 && t.head != "true" && t.head != "false"
}

// kind is what TermHead tells.
func (t oneTerm) kind() string {
	switch {
	case len(t.kids) > 0:
		return t.head
	case t.isName():
		return "name"
	}
	return "truth"
}

func (t oneTerm) size() int {
	n := 1
	if t.name != "" {
		n++
	}
	for _, kid := range t.kids {
		n += kid.size()
	}
	return n
}

// bindsAt reports whether the name is bound in a part.
func (t oneTerm) bindsAt(part int) bool {
	return t.head == "lam" || t.head == "let" && part == 1
}

// free returns each place at which a name stands free, in order.
func (t oneTerm) free() []string {
	if t.isName() {
		return []string{t.head}
	}
	all := []string{}
	for i, kid := range t.kids {
		for _, name := range kid.free() {
			if !t.bindsAt(i) || name != t.name {
				all = append(all, name)
			}
		}
	}
	return all
}

// freeOnce returns the free names in the order in which each one stands free first.
func (t oneTerm) freeOnce() []string {
	once := []string{}
	for _, name := range t.free() {
		if !slices.Contains(once, name) {
			once = append(once, name)
		}
	}
	return once
}

func (t oneTerm) uses(name string) int {
	n := 0
	for _, other := range t.free() {
		if other == name {
			n++
		}
	}
	return n
}

// withNames returns the term in which what is bound has the names that a function makes, in the order of the text.
func (t oneTerm) withNames(next func() string) oneTerm {
	return t.renamed(map[string]string{}, next)
}

func (t oneTerm) renamed(now map[string]string, next func() string) oneTerm {
	if len(t.kids) == 0 {
		if other, bound := now[t.head]; bound {
			return word(other)
		}
		return t
	}
	name, within := t.name, now
	if t.name != "" {
		name, within = next(), map[string]string{}
		for k, v := range now {
			within[k] = v
		}
		within[t.name] = name
	}
	kids := []oneTerm{}
	for i, kid := range t.kids {
		if t.bindsAt(i) {
			kids = append(kids, kid.renamed(within, next))
		} else {
			kids = append(kids, kid.renamed(now, next))
		}
	}
	return oneTerm{head: t.head, name: name, kids: kids}
}

// namesOf makes names with a mark and numbers, but for those that are left out.
func namesOf(mark string, left []string) func() string {
	n := -1
	return func() string {
		for {
			n++
			if name := fmt.Sprint(mark, n); !slices.Contains(left, name) {
				return name
			}
		}
	}
}

func (t oneTerm) canon() oneTerm {
	return t.withNames(namesOf("x", t.free()))
}

// put puts a term for a name: what is bound first gets names that no text has, so that nothing can be captured.
func (t oneTerm) put(name string, by oneTerm) oneTerm {
	return t.withNames(namesOf("?", nil)).replaced(name, by)
}

func (t oneTerm) replaced(name string, by oneTerm) oneTerm {
	if len(t.kids) == 0 {
		if t.head == name {
			return by
		}
		return t
	}
	kids := []oneTerm{}
	for _, kid := range t.kids {
		kids = append(kids, kid.replaced(name, by))
	}
	return oneTerm{head: t.head, name: t.name, kids: kids}
}

// putText is the result of TermPut that is wanted, "" for none.
func putText(s oneTerm, name string, by oneTerm) string {
	result := s.put(name, by)
	if result.size() > impl.TermMax {
		return ""
	}
	return result.canon().String()
}

// alike compares terms side by side: the last lam or let that binds a name must be the same one on both sides.
func alike(a oneTerm, b oneTerm, left []string, right []string) bool {
	if a.kind() != b.kind() {
		return false
	}
	if len(a.kids) == 0 {
		i, j := lastIndex(left, a.head), lastIndex(right, b.head)
		return i == j && (i >= 0 || a.head == b.head)
	}
	for i := range a.kids {
		l, r := left, right
		if a.bindsAt(i) {
			l, r = append(slices.Clone(left), a.name), append(slices.Clone(right), b.name)
		}
		if !alike(a.kids[i], b.kids[i], l, r) {
			return false
		}
	}
	return true
}

func lastIndex(list []string, s string) int {
	for i := len(list) - 1; i >= 0; i-- {
		if list[i] == s {
			return i
		}
	}
	return -1
}

// termsOfSize returns all terms of a number of atoms with the given heads, atoms and bound names.
func termsOfSize(atoms int, heads string, words []string, names []string) []oneTerm {
	table := [][]oneTerm{{}, {}}
	for _, w := range words {
		table[1] = append(table[1], word(w))
	}
	for n := 2; n <= atoms; n++ {
		all := []oneTerm{}
		for _, head := range strings.Fields(heads) {
			all = append(all, termsWithHead(head, n, table, names)...)
		}
		table = append(table, all)
	}
	return table[atoms]
}

func termsWithHead(head string, atoms int, table [][]oneTerm, names []string) []oneTerm {
	count := map[string]int{"lam": 1, "fst": 1, "snd": 1, "app": 2, "pair": 2, "let": 2, "if": 3}[head]
	rest := atoms - 1
	bound := []string{""}
	if head == "lam" || head == "let" {
		rest, bound = atoms-2, names
	}
	all := []oneTerm{}
	for _, kids := range listsOfTerms(count, rest, table) {
		for _, name := range bound {
			all = append(all, oneTerm{head: head, name: name, kids: kids})
		}
	}
	return all
}

// listsOfTerms returns all lists of a number of terms that have a number of atoms together.
func listsOfTerms(count int, atoms int, table [][]oneTerm) [][]oneTerm {
	if count == 0 {
		if atoms == 0 {
			return [][]oneTerm{{}}
		}
		return nil
	}
	all := [][]oneTerm{}
	for first := 1; first <= atoms; first++ {
		for _, rest := range listsOfTerms(count-1, atoms-first, table) {
			for _, t := range table[first] {
				all = append(all, append([]oneTerm{t}, rest...))
			}
		}
	}
	return all
}

const allHeads = "lam app pair fst snd if let"

// smallTerms returns all terms of a few atoms with few names, and some more of the heads that bind.
func smallTerms() []oneTerm {
	all := []oneTerm{}
	for n := 1; n <= 4; n++ {
		all = append(all, termsOfSize(n, allHeads, []string{"x", "y", "true", "false"}, []string{"x", "y"})...)
	}
	for n := 3; n <= 6; n++ {
		all = append(all, termsOfSize(n, "lam app let", []string{"x0", "y"}, []string{"x0", "y"})...)
	}
	return all
}

func (d *dice) term(atoms int, names []string) oneTerm {
	if atoms == 1 {
		return word(append([]string{"true", "false"}, names...)[d.below(2+len(names))])
	}
	name := names[d.below(len(names))]
	switch k := d.below(8); {
	case k < 2 && atoms >= 3:
		return lam(name, d.term(atoms-2, names))
	case k < 4 && atoms >= 4:
		left := 1 + d.below(atoms-3)
		return let(name, d.term(left, names), d.term(atoms-2-left, names))
	case k < 6 && atoms >= 3:
		left := 1 + d.below(atoms-2)
		return made([]string{"app", "pair"}[d.below(2)], d.term(left, names), d.term(atoms-1-left, names))
	case k < 7 && atoms >= 4:
		left := 1 + d.below(atoms-3)
		middle := 1 + d.below(atoms-2-left)
		return made("if", d.term(left, names), d.term(middle, names), d.term(atoms-1-left-middle, names))
	}
	return made([]string{"fst", "snd"}[d.below(2)], d.term(atoms-1, names))
}

// largerTerms returns terms of all sizes up to the greatest one, with few names, with those of canonical terms, and with many.
func largerTerms(seed int) []oneTerm {
	d := dice(seed)
	sets := [][]string{{"x", "y"}, {"x0", "x1", "x2"}, {"a", "x0", "x00", "z999", "x3", "f"}, {"x0", "x1", "x2", "x3", "x4", "x5", "x6", "x7", "x10", "x11"}}
	all := []oneTerm{}
	for round := range 4 {
		for atoms := 1; atoms <= impl.TermMax; atoms += 1 + d.below(3) {
			all = append(all, d.term(atoms, sets[round]))
		}
	}
	for range 1500 {
		all = append(all, d.term(1+d.below(24), sets[d.below(4)]))
	}
	return append(all, d.term(impl.TermMax, sets[1]), d.term(impl.TermMax-1, sets[1]))
}

func someTerms() []oneTerm {
	return append(smallTerms(), largerTerms(11)...)
}

var (
	atomPattern  = regexp.MustCompile(`[a-z0-9]+`)
	innerPattern = regexp.MustCompile(strings.NewReplacer("N", "[a-z][0-9]{0,3}", "M", "(?:T|true|false|[a-z][0-9]{0,3})").Replace(
		`\((?:lam N M|app M M|pair M M|fst M|snd M|if M M M|let N M M)\)`))
	wholePattern = regexp.MustCompile(`\A(?:T|true|false|[a-z][0-9]{0,3})\z`)
)

// formIsTerm tells whether a text is a term: the innermost parentheses become the mark T until there are none.
func formIsTerm(s string) bool {
	if strings.Contains(s, "T") || len(s) > impl.TextMax || len(atomPattern.FindAllString(s, -1)) > impl.TermMax {
		return false
	}
	for {
		less := innerPattern.ReplaceAllString(s, "T")
		if less == s {
			return wholePattern.MatchString(s)
		}
		s = less
	}
}

// around returns a term with the same text around it a number of times.
func around(times int, front string, s string, behind string) string {
	return strings.Repeat(front, times) + s + strings.Repeat(behind, times)
}

// badNames returns texts that are no names.
func badNames() []string {
	return []string{
		"", " ", "true", "false", "lam", "app", "pair", "fst", "snd", "if", "let", "name", "truth", "T", "X", "X1", "1", "12", "1x", "x1234", "x0000", "aa", "xy", "x1y", "xx1", "x12a",
		"x-1", "x ", " x", "x\n", "x\x00", "x\xff", "é", "x١", "x²", "_", "x_", "x'", "x.", "(x)", "()", "(", ")", "x)", "(x", "(fst x)", "(lam x x)", "x y", "x0 x1", "{", "`", "z:", "z/",
		strings.Repeat("x", impl.TextMax), "x" + strings.Repeat("0", impl.TextMax+1),
	}
}

// badTerms returns texts that are no terms.
func badTerms() []string {
	bad := []string{
		"", " ", "()", "( )", "(", ")", "(x", "x)", "(x)", "(true)", "((fst x))", "(x y)", "(true x)", "(name x)", "(truth true)", "(name)", "name", "truth",
		" x", "x ", "x\n", "\tx", "true ", " true", "True", "TRUE", "tru", "truee", "true1", "false0", "fals", "A", "X0", "0", "12", "1x", "x1234", "x0000", "xy", "x1y", "x-1", "\x00", "\xff", "é", "x١", "x\x00",
		"lam", "app", "pair", "fst", "snd", "if", "let", "(lam)", "(app)", "(pair)", "(fst)", "(snd)", "(if)", "(let)", "(lam )", "(fst )",
		"(lam x)", "(lam x )", "(lam x x x)", "(lam true x)", "(lam false x)", "(lam lam x)", "(lam app x)", "(lam let x)", "(lam if x)", "(lam fst x)", "(lam (fst x) x)", "(lam x1234 x)", "(lam xy x)", "(lam X x)", "(lam 1 x)", "(lam  x)", "(lam x lam)",
		"(let x)", "(let x x)", "(let x x x x)", "(let true x x)", "(let false x x)", "(let let x x)", "(let snd x x)", "(let (fst x) x x)", "(let x1234 x x)", "(let x x )", "(let x  x)", "(let  x x x)", "(let x = x x)",
		"(app x)", "(app x y z)", "(app x )", "(app  x y)", "(app x  y)", "(app x y )", "( app x y)", "(app x y) ", " (app x y)", "(app x y))", "((app x y)", "(app x y", "(app\tx y)", "(app x\ny)", "(app x,y)", "(appx y)", "(app x app)", "(app lam x)",
		"(pair x)", "(pair x y z)", "(pair  x y)", "(pair x  y)", "(pair x y )", "(fst)", "(fst x y)", "(fst  x)", "(fst x )", "(fst(fst x))", "(fst (fst x)y)", "(fst x(fst y))", "(snd x y)", "(snd  x)", "(sndx)",
		"(if)", "(if x)", "(if x y)", "(if x y z x)", "(if  x y z)", "(if x  y z)", "(if x y  z)", "(if x y z )", "(if x y z", "(iff x y z)", "(i x y z)",
		"(LAM x x)", "(Lam x x)", "(lambda x x)", "(first x)", "(> x y)", "(* x y)", "(o x y)", "[fst x]", "(fst x)(fst y)", "(fst x) (fst y)", "x y", "(lam x x)\n", "(fst \xff)", "(fst xé)", "(fst x\x00)",
		"(app (fst x) )", "(app (lam x) y)", "(app x(fst y))", "(app (fst x)y)", "(app (x y) z)", "(lam x (y))", "(let x (fst) x)", "(let x x (snd))", "(if true false)",
	}
	bad = append(bad, around(impl.TermMax, "(fst ", "x", ")"), around(impl.TermMax-1, "(fst ", "(lam x x)", ")"), around(150, "(app x ", "x", ")"), around(150, "(lam x ", "x", ")"))
	bad = append(bad, strings.Repeat("(", impl.TextMax), strings.Repeat("(fst ", 1000000), strings.Repeat("(lam x ", 1000000), strings.Repeat("x", impl.TextMax), strings.Repeat(" ", impl.TextMax), strings.Repeat("x", impl.TextMax+1))
	bad = append(bad, around(749, "(lam x ", "(pair x (fst x))", ")"), "(app x "+strings.Repeat(" ", impl.TextMax)+"y)")
	return append(bad, longTexts()...)
}

// longTexts returns texts in the form of terms with TextMax bytes, one more and one less. All of them have too many atoms, as the longest term is shorter.
func longTexts() []string {
	return []string{around(998, "(fst ", "(app x x000)", ")"), around(1000, "(fst ", "x", ")"), around(999, "(fst ", "false", ")")}
}
