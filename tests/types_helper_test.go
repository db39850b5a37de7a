package tests

import (
	"slices"
	"strings"
	"testing"

	"loop.example/parametric/impl"
)

// oneType is a type as a tree of the tests' own, so that they do not lean on the program's reading of types.
type oneType struct {
	atom  string
	parts []oneType
}

func leaf(atom string) oneType {
	return oneType{atom: atom}
}

func node(sign string, left oneType, right oneType) oneType {
	return oneType{atom: sign, parts: []oneType{left, right}}
}

func (t oneType) String() string {
	if len(t.parts) == 0 {
		return t.atom
	}
	return "(" + t.atom + " " + t.parts[0].String() + " " + t.parts[1].String() + ")"
}

func (t oneType) isVariable() bool {
	return len(t.parts) == 0 && t.atom != "o"
}

func (t oneType) size() int {
	n := 1
	for _, p := range t.parts {
		n += p.size()
	}
	return n
}

// names returns the variables in the order in which each one stands first.
func (t oneType) names() []string {
	found := []string{}
	if t.isVariable() {
		return append(found, t.atom)
	}
	for _, p := range t.parts {
		for _, name := range p.names() {
			if !slices.Contains(found, name) {
				found = append(found, name)
			}
		}
	}
	return found
}

// put replaces variables by types, all at once.
func (t oneType) put(by map[string]oneType) oneType {
	if len(t.parts) == 0 {
		if u, ok := by[t.atom]; ok && t.isVariable() {
			return u
		}
		return t
	}
	return node(t.atom, t.parts[0].put(by), t.parts[1].put(by))
}

const allLetters = "abcdefghijklmnpqrstuvwxyz"

func (t oneType) canon() oneType {
	by := map[string]oneType{}
	for i, name := range t.names() {
		by[name] = leaf(allLetters[i : i+1])
	}
	return t.put(by)
}

// primed gives each variable a name that no text has, so that it is apart from those of other types.
func (t oneType) primed() oneType {
	by := map[string]oneType{}
	for _, name := range t.names() {
		by[name] = leaf(strings.ToUpper(name))
	}
	return t.put(by)
}

// typesOf returns all types of a number of atoms with the given letters.
func typesOf(atoms int, letters string) []oneType {
	if atoms == 1 {
		all := []oneType{}
		for _, c := range letters {
			all = append(all, leaf(string(c)))
		}
		return all
	}
	all := []oneType{}
	for left := 1; left < atoms-1; left += 2 {
		for _, l := range typesOf(left, letters) {
			for _, r := range typesOf(atoms-1-left, letters) {
				all = append(all, node(">", l, r), node("*", l, r))
			}
		}
	}
	return all
}

// typesUpTo returns all types of at most a number of atoms with the given letters.
func typesUpTo(atoms int, letters string) []oneType {
	all := []oneType{}
	for n := 1; n <= atoms; n += 2 {
		all = append(all, typesOf(n, letters)...)
	}
	return all
}

// dice is a row of numbers that is the same in each run.
type dice uint64

func (d *dice) below(n int) int {
	*d = *d*6364136223846793005 + 1442695040888963407
	return int(uint64(*d)>>33) % n
}

func (d *dice) typeOf(atoms int, letters string) oneType {
	if atoms == 1 {
		k := d.below(len(letters))
		return leaf(letters[k : k+1])
	}
	left := 1 + 2*d.below((atoms-1)/2)
	return node([]string{">", "*"}[d.below(2)], d.typeOf(left, letters), d.typeOf(atoms-1-left, letters))
}

// someTypes returns types of all sizes up to the greatest one, of a few letters and of many.
func someTypes() []oneType {
	all := typesUpTo(5, "oab")
	d := dice(7)
	for round := range 12 {
		for atoms := 1; atoms < impl.TypeMax; atoms += 2 {
			all = append(all, d.typeOf(atoms, []string{"oa", "ab", "oabc", "zyxo", allLetters, "o" + allLetters}[round%6]))
		}
	}
	return all
}

// chain returns a type of functions with a number of left parts ahead of the last part, all of them the same.
func chain(parts int, part string, last string) string {
	return strings.Repeat("(> "+part+" ", parts) + last + strings.Repeat(")", parts)
}

// rowType returns a type of functions of as many variables as there are letters, in order.
func rowType(letters string) oneType {
	last := len(letters) - 1
	t := leaf(letters[last:])
	for i := last - 1; i >= 0; i-- {
		t = node(">", leaf(letters[i:i+1]), t)
	}
	return t
}

func row(letters string) string {
	return rowType(letters).String()
}

// badTypes returns texts that are no types.
func badTypes() []string {
	bad := []string{
		"", " ", "A", "Z", "0", "1", "ab", "oo", "aa", "-", ">", "*", "(", ")", "()", "(a)", "((a))", "(o)",
		" a", "a ", "a\n", "\ta", " o", "o ", "a b", "\x00", "\xff", "é", "ａ", "a\x00", "true",
		"(>)", "(> )", "(> a)", "(> a )", "(>a b)", "(>  a b)", "(> a  b)", "(> a b )", "( > a b)", "(> a b) ", " (> a b)", "(> a b))",
		"((> a b)", "(> a b", "(> a b c)", "> a b", "> a b)", "(a > b)", "(> a\tb)", "(>\ta b)", "(> a\nb)", "(> a,b)", "[> a b]",
		"(+ a b)", "(- a b)", "(>> a b)", "(o a b)", "(a a b)", "(> A b)", "(> a B)", "(> a 1)", "(> ab c)", "(> a bc)",
		"(> (> a b) )", "(> (> a b)c)", "(> a(> b c))", "(> (a b) c)", "(* a (* b))", "(* a)", "(*a b)", "(* a  b)", "(* a b ) ",
		"(> a b)(> a b)", "(> a b) (> a b)", "(> a b)\n", "(× a b)", "(> a \xff)",
	}
	bad = append(bad, chain(20, "a", "a"), chain(20, "o", "o"), chain(21, "a", "b"), strings.Repeat("(> a ", 39)+"a")
	bad = append(bad, strings.Repeat("(", impl.TextMax), strings.Repeat("(> ", 1000000), strings.Repeat("a", impl.TextMax+1))
	bad = append(bad, chain(1500, "a", "a"), "(> a "+strings.Repeat(" ", impl.TextMax)+"b)")
	return bad
}

// short keeps messages readable for texts that are long.
func short(s string) string {
	if len(s) > 200 {
		return s[:200] + ".."
	}
	return s
}

func mustPut(t *testing.T, s string, names []string, by []string) string {
	t.Helper()
	result, ok := impl.TypePut(s, names, by)
	if !ok {
		t.Fatalf("TypePut(%q, %q, %q) fails", s, names, by)
	}
	return result
}
