package tests

import (
	"fmt"
	"maps"
	"slices"
	"strings"
	"testing"

	"loop.example/parametric/impl"
)

// unfolded replaces each let, from the inside, by names that are put. It returns false if a part comes to have more atoms than the limit.
func (t oneTerm) unfolded(limit int) (oneTerm, bool) {
	kids := []oneTerm{}
	for _, kid := range t.kids {
		done, ok := kid.unfolded(limit)
		if !ok {
			return t, false
		}
		kids = append(kids, done)
	}
	done := oneTerm{head: t.head, name: t.name, kids: kids}
	if t.head == "let" {
		done = made("app", lam(t.name, kids[1]), kids[0])
		if kids[1].uses(t.name) > 0 {
			done = kids[1].put(t.name, kids[0])
		}
	}
	return done, done.size() <= limit
}

// unfoldText is the result of InferUnfold that is wanted, "" for none.
func unfoldText(t oneTerm) string {
	done, ok := t.unfolded(impl.TermMax)
	if !ok {
		return ""
	}
	return done.canon().String()
}

// plainTyping finds types in the way of textbooks: variables are put one after the other. It knows no let.
type plainTyping struct {
	puts  map[string]oneType
	given int
}

func (p *plainTyping) fresh() oneType {
	p.given++
	return leaf(fmt.Sprint("t", p.given))
}

// front returns a type of which the front is known as far as it can be.
func (p *plainTyping) front(x oneType) oneType {
	for {
		next, ok := p.puts[x.atom]
		if !ok || !x.isVariable() {
			return x
		}
		x = next
	}
}

func (p *plainTyping) hasVariable(x oneType, name string) bool {
	x = p.front(x)
	if x.isVariable() {
		return x.atom == name
	}
	return len(x.parts) > 0 && (p.hasVariable(x.parts[0], name) || p.hasVariable(x.parts[1], name))
}

func (p *plainTyping) equal(x oneType, y oneType) bool {
	x, y = p.front(x), p.front(y)
	switch {
	case x.isVariable() && y.isVariable() && x.atom == y.atom:
		return true
	case x.isVariable():
		if p.hasVariable(y, x.atom) {
			return false
		}
		p.puts[x.atom] = y
		return true
	case y.isVariable():
		return p.equal(y, x)
	case x.atom != y.atom:
		return false
	}
	return len(x.parts) == 0 || p.equal(x.parts[0], y.parts[0]) && p.equal(x.parts[1], y.parts[1])
}

// whole returns a type with all variables put, or false if it has more than TypeMax atoms.
func (p *plainTyping) whole(x oneType) (oneType, bool) {
	left := impl.TypeMax
	done := p.wholeWithin(x, &left)
	return done, left >= 0
}

func (p *plainTyping) wholeWithin(x oneType, left *int) oneType {
	x = p.front(x)
	*left--
	if *left < 0 || len(x.parts) == 0 {
		return x
	}
	first := p.wholeWithin(x.parts[0], left)
	return node(x.atom, first, p.wholeWithin(x.parts[1], left))
}

// A typedPart is a part of a term with its type.
type typedPart struct {
	head string
	name string
	kind oneType
	kids []typedPart
}

// typed returns a term and its parts with their types, as far as they are known until now.
func (p *plainTyping) typed(t oneTerm, around map[string]oneType) (typedPart, bool) {
	part := typedPart{head: t.head, name: t.name}
	if t.isName() {
		kind, ok := around[t.head]
		part.kind = kind
		return part, ok
	}
	within, bound := around, p.fresh()
	if t.head == "lam" {
		within = maps.Clone(around)
		within[t.name] = bound
	}
	kinds := []oneType{}
	for _, kid := range t.kids {
		x, ok := p.typed(kid, within)
		if !ok {
			return part, false
		}
		part.kids = append(part.kids, x)
		kinds = append(kinds, x.kind)
	}
	left, right := p.fresh(), p.fresh()
	ok := true
	switch t.head {
	case "lam":
		part.kind = node(">", bound, kinds[0])
	case "app":
		part.kind, ok = right, p.equal(kinds[0], node(">", kinds[1], right))
	case "pair":
		part.kind = node("*", kinds[0], kinds[1])
	case "fst":
		part.kind, ok = left, p.equal(kinds[0], node("*", left, right))
	case "snd":
		part.kind, ok = right, p.equal(kinds[0], node("*", left, right))
	case "if":
		part.kind, ok = kinds[1], p.equal(kinds[0], leaf("o")) && p.equal(kinds[1], kinds[2])
	default:
		part.kind = leaf("o")
	}
	return part, ok
}

func (p *plainTyping) kind(t oneTerm, around map[string]oneType) (oneType, bool) {
	part, ok := p.typed(t, around)
	return part.kind, ok
}

// kindText is the principal type that is wanted, "" for none. Each let is unfolded first, as its name may have another type at each place.
func kindText(t *testing.T, x oneTerm) string {
	t.Helper()
	plain, ok := x.unfolded(100000)
	if !ok {
		t.Fatalf("the test cannot unfold %q", short(x.String()))
	}
	p := &plainTyping{puts: map[string]oneType{}}
	kind, ok := p.kind(plain, map[string]oneType{})
	if !ok {
		return ""
	}
	whole, ok := p.whole(kind)
	if !ok {
		return ""
	}
	return whole.canon().String()
}

// A plainScope tells how the names around a part have their types.
type plainScope struct {
	name  string
	kind  oneType  // of a name bound by lam
	first *oneTerm // of a name bound by let
	outer *plainScope
}

// asks counts the parts for which plainHas tries all types.
func (t oneTerm) asks() int {
	n := 0
	if slices.Contains([]string{"app", "fst", "snd", "let"}, t.head) {
		n++
	}
	for _, kid := range t.kids {
		n += kid.asks()
	}
	return n
}

// plainHas tells whether a term has a type just as the document says it, if the types of all parts are among some.
func plainHas(t oneTerm, kind oneType, around *plainScope, some []oneType) bool {
	if t.isName() {
		at := around
		for at != nil && at.name != t.head {
			at = at.outer
		}
		if at == nil {
			return false
		}
		if at.first != nil {
			return plainHas(*at.first, kind, at.outer, some)
		}
		return at.kind.String() == kind.String()
	}
	// has tells whether a part has a type.
	has := func(part int, kind oneType) bool { return plainHas(t.kids[part], kind, around, some) }
	// exists tells whether there is a type with which something holds.
	exists := func(holds func(x oneType) bool) bool {
		for _, x := range some {
			if holds(x) {
				return true
			}
		}
		return false
	}
	switch t.head {
	case "lam":
		return kind.atom == ">" && plainHas(t.kids[0], kind.parts[1], &plainScope{name: t.name, kind: kind.parts[0], outer: around}, some)
	case "app":
		return exists(func(x oneType) bool { return has(1, x) && has(0, node(">", x, kind)) })
	case "pair":
		return kind.atom == "*" && has(0, kind.parts[0]) && has(1, kind.parts[1])
	case "fst":
		return exists(func(x oneType) bool { return has(0, node("*", kind, x)) })
	case "snd":
		return exists(func(x oneType) bool { return has(0, node("*", x, kind)) })
	case "if":
		return has(0, leaf("o")) && has(1, kind) && has(2, kind)
	case "let":
		return exists(func(x oneType) bool { return has(0, x) }) && plainHas(t.kids[1], kind, &plainScope{name: t.name, first: &t.kids[0], outer: around}, some)
	}
	return kind.atom == "o"
}

// closed returns a term with no other free names than some.
func (d *dice) closed(atoms int, names []string) oneTerm {
	if atoms == 1 {
		if len(names) > 0 && d.below(6) > 0 {
			return word(names[d.below(len(names))])
		}
		return word([]string{"true", "false"}[d.below(2)])
	}
	name := []string{"x", "y", "z", "f", "x0", "x1"}[d.below(6)]
	left := 1 + d.below(max(atoms-3, 1))
	switch k := d.below(12); {
	case k < 4 && atoms >= 3:
		return lam(name, d.closed(atoms-2, append(names[:len(names):len(names)], name)))
	case k < 6 && atoms >= 4:
		return let(name, d.closed(left, names), d.closed(atoms-2-left, append(names[:len(names):len(names)], name)))
	case k < 10 && atoms >= 3:
		left = min(left, atoms-2)
		return made([]string{"app", "app", "pair"}[d.below(3)], d.closed(left, names), d.closed(atoms-1-left, names))
	case k < 11 && atoms >= 4:
		middle := 1 + d.below(atoms-2-left)
		return made("if", d.closed(left, names), d.closed(middle, names), d.closed(atoms-1-left-middle, names))
	}
	return made([]string{"fst", "snd"}[d.below(2)], d.closed(atoms-1, names))
}

// smallClosed returns all closed terms of at most a number of atoms, and some more of the heads that bind.
func smallClosed(atoms int) []oneTerm {
	all := []oneTerm{}
	add := func(more []oneTerm) {
		for _, x := range more {
			if len(x.free()) == 0 {
				all = append(all, x)
			}
		}
	}
	for n := 1; n <= atoms; n++ {
		add(termsOfSize(n, allHeads, []string{"x", "true"}, []string{"x"}))
		add(termsOfSize(n+1, "lam let pair", []string{"x", "y"}, []string{"x", "y"}))
		add(termsOfSize(n+1, "lam app", []string{"x", "y"}, []string{"x", "y"}))
	}
	return all
}

// libraryTexts returns closed terms with types that are of use, some of them with let.
func libraryTexts() []string {
	return []string{
		"(lam f (lam x x))", "(lam f (lam x (app f x)))", "(lam f (lam x (app f (app f x))))", "(lam n (lam f (lam x (app f (app (app n f) x)))))",
		"(lam m (lam n (lam f (lam x (app (app m f) (app (app n f) x))))))", "(lam m (lam n (lam f (app m (app n f)))))", "(lam m (lam n (app n m)))",
		"(lam n (app (app n (lam b (if b false true))) true))", "(lam b (lam c (if b c false)))", "(lam p (pair (snd p) (fst p)))", "(lam f (lam g (lam x (app f (app g x)))))",
		"(lam x (lam y x))", "(lam f (lam x (app (app f x) x)))", "(lam x (lam y (lam z (app (app x z) (app y z)))))", "(lam p (lam f (app (app f (fst p)) (snd p))))",
		"(let i (lam x x) (pair (app i true) (app i i)))", "(let s (lam p (pair (snd p) (fst p))) (pair (app s (pair true s)) s))", "(let t (lam f (lam x (app f (app f x)))) (app t (app t t)))",
		"(lam y (let f (lam z (pair y z)) (pair (app f true) (app f f))))", "(lam y (let x (app y true) (pair x y)))", "(let x (lam y y) (let x (app x x) (app x x)))", "(let k (lam x (lam y x)) (let s (app k k) (app (app s k) true)))",
	}
}

func library() []oneTerm {
	all := []oneTerm{}
	for _, s := range libraryTexts() {
		all = append(all, read(s))
	}
	return all
}

func read(s string) oneTerm {
	return readOne(&s)
}

// readOne reads a term from the front of a text that is one.
func readOne(s *string) oneTerm {
	if (*s)[0] != '(' {
		end := strings.IndexAny(*s+")", " )")
		atom := (*s)[:end]
		*s = (*s)[end:]
		return word(atom)
	}
	head, rest, _ := strings.Cut((*s)[1:], " ")
	t := oneTerm{head: head}
	if head == "lam" || head == "let" {
		t.name, rest, _ = strings.Cut(rest, " ")
	}
	for {
		t.kids = append(t.kids, readOne(&rest))
		if rest[0] == ')' {
			*s = rest[1:]
			return t
		}
		rest = rest[1:]
	}
}

// closedTerms returns closed terms of many sizes, with types and without.
func closedTerms(seed int) []oneTerm {
	d := dice(seed)
	all := append(smallClosed(6), library()...)
	for range 6000 {
		all = append(all, d.closed(4+d.below(22), nil))
	}
	lib := library()
	for range 1500 {
		all = append(all, made([]string{"app", "pair"}[d.below(2)], lib[d.below(len(lib))], lib[d.below(len(lib))]))
		x, y := lib[d.below(len(lib))], d.closed(1+d.below(12), []string{"f"})
		all = append(all, let("f", x, y), made("app", lam("f", y), x))
	}
	return all
}
