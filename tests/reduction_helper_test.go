package tests

import (
	"slices"
	"strings"
	"testing"

	"loop.example/parametric/impl"
)

// isRedex tells whether a step can replace the term as a whole.
func (t oneTerm) isRedex() bool {
	if len(t.kids) == 0 {
		return false
	}
	switch first := t.kids[0].kind(); t.head {
	case "app":
		return first == "lam"
	case "fst", "snd":
		return first == "pair"
	case "if":
		return first == "truth"
	}
	return t.head == "let"
}

// replacedRedex is what a step makes of a redex, by names that are put.
func (t oneTerm) replacedRedex() oneTerm {
	first := t.kids[0]
	switch t.head {
	case "app":
		return first.kids[0].put(first.name, t.kids[1])
	case "let":
		return t.kids[1].put(t.name, first)
	case "fst":
		return first.kids[0]
	case "snd":
		return first.kids[1]
	}
	if first.head == "true" {
		return t.kids[1]
	}
	return t.kids[2]
}

// A place tells, from the whole term on, in which part to go on.
type place []int

// redexes returns the places of all redexes: a term ahead of its parts, and these in order.
func (t oneTerm) redexes() []place {
	all := []place{}
	if t.isRedex() {
		all = append(all, place{})
	}
	for i, kid := range t.kids {
		for _, p := range kid.redexes() {
			all = append(all, append(place{i}, p...))
		}
	}
	return all
}

func (t oneTerm) steppedAt(p place) oneTerm {
	if len(p) == 0 {
		return t.replacedRedex()
	}
	kids := slices.Clone(t.kids)
	kids[p[0]] = kids[p[0]].steppedAt(p[1:])
	return oneTerm{head: t.head, name: t.name, kids: kids}
}

// stepped returns the canonical term behind a step at the redex with an index, or false if there is none or the result is too large.
func (t oneTerm) stepped(k int) (oneTerm, bool) {
	all := t.redexes()
	if k < 0 || k >= len(all) {
		return t, false
	}
	next := t.steppedAt(all[k])
	if next.size() > impl.TermMax {
		return t, false
	}
	return next.canon(), true
}

// stepText is the result of StepInside that is wanted, "" for none.
func (t oneTerm) stepText(k int) string {
	next, ok := t.stepped(k)
	if !ok {
		return ""
	}
	return next.String()
}

// walk returns the term itself and those behind one step and more, each behind the first redex of the one before, as many as there are.
func (t oneTerm) walk(most int) []oneTerm {
	all := []oneTerm{t}
	for len(all) <= most {
		next, ok := all[len(all)-1].stepped(0)
		if !ok {
			break
		}
		all = append(all, next)
	}
	return all
}

// normalText is the result of NormalOf that is wanted, "" for none.
func (t oneTerm) normalText() string {
	all := t.walk(impl.StepsMax)
	last := all[len(all)-1]
	if len(last.redexes()) > 0 {
		return ""
	}
	return last.canon().String()
}

// busy returns a term with many redexes, in which no other names are free than some.
func (d *dice) busy(atoms int, names []string) oneTerm {
	if atoms < 5 {
		return d.closed(atoms, names)
	}
	name := []string{"x", "y", "z", "x0", "x1"}[d.below(5)]
	within := append(names[:len(names):len(names)], name)
	left := 1 + d.below(atoms-4)
	switch d.below(9) {
	case 0, 1:
		return made("app", lam(name, d.busy(left, within)), d.busy(atoms-3-left, names))
	case 2, 3:
		pair := made("pair", d.busy(left, names), d.busy(atoms-2-left, names))
		return made([]string{"fst", "snd"}[d.below(2)], pair)
	case 4:
		truth := word([]string{"true", "false"}[d.below(2)])
		return made("if", truth, d.busy(left, names), d.busy(atoms-2-left, names))
	case 5:
		return let(name, d.busy(left, names), d.busy(atoms-2-left, within))
	case 6:
		return lam(name, d.busy(atoms-2, within))
	}
	return made([]string{"app", "pair"}[d.below(2)], d.busy(left, names), d.busy(atoms-1-left, names))
}

// A kindName is a name with its type.
type kindName struct {
	name string
	kind oneType
}

// typed returns a closed term of a type, with redexes as long as there is depth left, in which some names may be used. For each variable of the type there must be a name that no other one hides.
func (d *dice) typed(kind oneType, around []kindName, depth int) oneTerm {
	name := []string{"x", "y", "z", "x0", "x1"}[d.below(5)]
	// part returns a term of a type, in which the name has a type, too.
	part := func(kind oneType, named ...oneType) oneTerm {
		within := slices.DeleteFunc(slices.Clone(around), func(n kindName) bool { return len(named) > 0 && n.name == name })
		for _, other := range named {
			within = append(within, kindName{name, other})
		}
		return d.typed(kind, within, depth-1)
	}
	letters := "o"
	for _, n := range around {
		if n.kind.isVariable() {
			letters += n.kind.atom
		}
	}
	other := d.typeOf([]int{1, 1, 3, 5}[d.below(4)], letters)
	choice := d.below(12)
	switch {
	case depth <= 0 || choice >= 10:
		return d.typedFront(kind, around, name, part)
	case choice < 3:
		return made("app", lam(name, part(kind, other)), part(other))
	case choice < 5:
		return made("fst", made("pair", part(kind), part(other)))
	case choice < 6:
		return made("snd", made("pair", part(other), part(kind)))
	case choice < 7:
		return made("if", part(leaf("o")), part(kind), part(kind))
	case choice < 8:
		return let(name, part(other), part(kind, other))
	}
	return made("app", part(node(">", other, kind)), part(other))
}

// typedFront returns a term of a type that is a name or not a redex.
func (d *dice) typedFront(kind oneType, around []kindName, name string, part func(kind oneType, named ...oneType) oneTerm) oneTerm {
	names := []string{}
	for _, n := range around {
		if n.kind.String() == kind.String() {
			names = append(names, n.name)
		}
	}
	switch {
	case len(names) > 0 && (kind.isVariable() || d.below(4) > 0):
		return word(names[d.below(len(names))])
	case kind.atom == ">":
		return lam(name, part(kind.parts[1], kind.parts[0]))
	case kind.atom == "*":
		return made("pair", part(kind.parts[0]), part(kind.parts[1]))
	}
	return word([]string{"true", "false"}[d.below(2)])
}

// calculations returns applications of numerals and of other terms that are of use, the normal terms of which are some steps away.
func calculations() []oneTerm {
	all := []oneTerm{}
	add := func(form string, parts ...string) {
		for i, part := range parts {
			form = strings.ReplaceAll(form, "ABCD"[i:i+1], part)
		}
		all = append(all, read(form))
	}
	for _, f := range []string{plusTerm, timesTerm, powerTerm} {
		for m := range 4 {
			for n := range 4 {
				add("(app (app A B) C)", f, numeral(m), numeral(n))
				add("(app (app (app (app A B) C) D) true)", f, numeral(m), numeral(n), notTerm)
			}
		}
	}
	for n := range 8 {
		add("(app (lam n (app (app n A) true)) B)", notTerm, numeral(n))
		add("(let n B (pair (app (app n A) true) (app (app n A) false)))", notTerm, numeral(n))
		add("(app (app B (lam p (pair (snd p) (fst p)))) (pair true A))", notTerm, numeral(n))
	}
	return all
}

const (
	plusTerm  = "(lam m (lam n (lam f (lam x (app (app m f) (app (app n f) x))))))"
	timesTerm = "(lam m (lam n (lam f (app m (app n f)))))"
	powerTerm = "(lam m (lam n (app n m)))"
	notTerm   = "(lam b (if b false true))"
	omegaTerm = "(app (lam x (app x x)) (lam x (app x x)))"
)

// numeral returns the term that applies a function a number of times.
func numeral(n int) string {
	return "(lam f (lam x " + around(n, "(app f ", "x", ")") + "))"
}

// reducedTerms returns closed terms and others, with redexes and without, of many sizes.
func reducedTerms(seed int) []oneTerm {
	d := dice(seed)
	all := append(smallClosed(6), library()...)
	all = append(all, calculations()...)
	for _, x := range library() {
		for _, y := range library() {
			all = append(all, made("app", x, y))
		}
	}
	for range 1500 {
		all = append(all, d.busy(5+d.below(40), nil), d.busy(5+d.below(40), []string{"x", "x0", "y", "x2"}), d.closed(4+d.below(22), nil), d.term(4+d.below(22), []string{"x", "x0", "x1"}))
		if x := d.typed(d.typeOf([]int{1, 3, 5}[d.below(3)], "o"), nil, 2+d.below(3)); x.size() <= impl.TermMax {
			all = append(all, x)
		}
	}
	for atoms := 50; atoms <= impl.TermMax; atoms += 5 {
		all = append(all, d.busy(atoms, nil), d.busy(atoms, []string{"x", "x0", "y", "x2"}))
	}
	return all
}

// kindsOf returns a few types that a term has, its principal one among them.
func (d *dice) kindsOf(s string) []string {
	had := []string{}
	kind, ok := impl.Infer(s)
	if !ok {
		return had
	}
	for _, near := range d.kindsNear(kind) {
		if impl.InferHas(s, near) {
			had = append(had, near)
		}
	}
	return had
}

// checkKept checks that a term has types that another one has.
func checkKept(t *testing.T, call string, result string, kinds []string) {
	t.Helper()
	for _, kind := range kinds {
		if !impl.InferHas(result, kind) {
			t.Errorf("%s is %q without the type %q", short(call), short(result), kind)
		}
	}
}
