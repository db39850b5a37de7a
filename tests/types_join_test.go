package tests

import (
	"strings"
	"testing"

	"loop.example/parametric/impl"
)

// plainJoin joins types in the way of textbooks: one put after the other. It is slow, but plain.
// It returns nil if they cannot be joined or what comes on the way is very large.
func plainJoin(a oneType, b oneType) *oneType {
	left, right, whole := []oneType{a}, []oneType{b}, a
	for len(left) > 0 {
		x, y := left[0], right[0]
		left, right = left[1:], right[1:]
		switch {
		case x.String() == y.String():
			continue
		case y.isVariable():
			x, y = y, x
		case !x.isVariable() && x.atom != y.atom:
			return nil
		}
		if !x.isVariable() {
			left = append([]oneType{x.parts[0], x.parts[1]}, left...)
			right = append([]oneType{y.parts[0], y.parts[1]}, right...)
			continue
		}
		if strings.Contains(" "+strings.Join(y.names(), " ")+" ", " "+x.atom+" ") {
			return nil
		}
		by := map[string]oneType{x.atom: y}
		for i := range left {
			left[i], right[i] = left[i].put(by), right[i].put(by)
		}
		whole = whole.put(by)
		if whole.size() > 5000 {
			return nil
		}
	}
	return &whole
}

// joinText is the result that is wanted of joining, "" for none.
func joinText(a oneType, b oneType) string {
	joined := plainJoin(a, b)
	if joined == nil || joined.size() > impl.TypeMax {
		return ""
	}
	return joined.canon().String()
}

func checkJoin(t *testing.T, a oneType, b oneType) {
	t.Helper()
	joined, ok := impl.TypeJoin(a.String(), b.String())
	checkText(t, "TypeJoin of "+a.String()+" and "+b.String(), joined, ok, joinText(a, b))
	want := joinText(a, b.primed())
	if len(a.names())+len(b.names()) > 25 {
		want = ""
	}
	joined, ok = impl.TypeApart(a.String(), b.String())
	checkText(t, "TypeApart of "+a.String()+" and "+b.String(), joined, ok, want)
}

func TestJoinsOfAllSmallTypes(t *testing.T) {
	all := typesUpTo(5, "oab")
	for _, a := range all {
		for _, b := range all {
			checkJoin(t, a, b)
		}
	}
}

func TestJoinsOfLargerTypes(t *testing.T) {
	d := dice(3)
	for range 4000 {
		letters := []string{"abcd", "oabcdef", "abcdefghi", allLetters}[d.below(4)]
		checkJoin(t, d.typeOf(1+2*d.below(20), letters), d.typeOf(1+2*d.below(20), letters))
	}
	// Types of one form have more joins than types that are any.
	for range 4000 {
		form := d.typeOf(1+2*d.below(7), "abcdef")
		checkJoin(t, form.put(d.puts()), form.put(d.puts()))
	}
}

func (d *dice) puts() map[string]oneType {
	by := map[string]oneType{}
	for _, name := range []string{"a", "b", "c", "d", "e", "f"} {
		by[name] = d.typeOf([]int{1, 1, 1, 3}[d.below(4)], "abcdefghi")
	}
	return by
}

// What is joined is what the document says: equal, and each other way that makes both equal makes an instance of it.
func TestJoinsAreMostGeneral(t *testing.T) {
	all, puts := typesUpTo(3, "oab"), typesUpTo(3, "oc")
	for _, a := range all {
		for _, b := range all {
			joined, ok := impl.TypeJoin(a.String(), b.String())
			if ok && !impl.TypeInstance(node("*", a, b).String(), "(* "+joined+" "+joined+")") {
				t.Errorf("TypeJoin(%q, %q) returns %q, which is not what both become", a, b, joined)
			}
			for _, p := range puts {
				for _, q := range puts {
					by := map[string]oneType{"a": p, "b": q}
					x, y := a.put(by).String(), b.put(by).String()
					if x == y && (!ok || !impl.TypeInstance(joined, x)) {
						t.Errorf("%q is of %q and %q, but of TypeJoin %q it is no instance", x, a, b, joined)
					}
				}
			}
		}
	}
}

func TestJoinsByHand(t *testing.T) {
	// The last two texts are the results of TypeJoin and of TypeApart.
	cases := [][4]string{
		{"(> a b)", "(> o a)", "(> o o)", "(> o a)"},
		{"a", "b", "a", "a"},
		{"a", "a", "a", "a"},
		{"o", "o", "o", "o"},
		{"z", "o", "o", "o"},
		{"o", "(> a b)", "", ""},
		{"(* a b)", "(> a b)", "", ""},
		{"(> c d)", "(> d c)", "(> a a)", "(> a b)"},
		{"(> a (* b c))", "(> (> o o) d)", "(> (> o o) (* a b))", "(> (> o o) (* a b))"},
		{"(> a a)", "(> (> b o) (> o c))", "(> (> o o) (> o o))", "(> (> o o) (> o o))"},
		// Variables that occur in what they are joined with.
		{"a", "(> a a)", "", "(> a a)"},
		{"(> a a)", "a", "", "(> a a)"},
		{"a", "(* o a)", "", "(* o a)"},
		{"(* a b)", "(* b (> a o))", "", "(* a (> b o))"},
		{"(* a b)", "(* (> b o) (> a o))", "", "(* (> a o) (> b o))"},
		{"(* a (* b c))", "(* (> b o) (* (> c o) (> a o)))", "", "(* (> a o) (* (> b o) (> c o)))"},
		{"(> a a)", "(> b (> b b))", "", ""},
		{"(* (> a b) a)", "(* c c)", "", ""},
		{"(> (* a b) (* b a))", "(> c (* (> a a) d))", "(> (* a (> a a)) (* (> a a) a))", "(> (* a (> b b)) (* (> b b) a))"},
		// Types that would lead back to themselves for ever.
		{"(* (* a b) (* a b))", "(* (* (> a o) (> b o)) (* b a))", "", ""},
	}
	for _, c := range cases {
		joined, ok := impl.TypeJoin(c[0], c[1])
		checkText(t, "TypeJoin of "+c[0]+" and "+c[1], joined, ok, c[2])
		joined, ok = impl.TypeApart(c[0], c[1])
		checkText(t, "TypeApart of "+c[0]+" and "+c[1], joined, ok, c[3])
	}
}

// doubled returns two types that make each of the letters a pair of the next one with itself when they are joined.
func doubled(letters string) (string, string) {
	left, right := leaf("o"), leaf("o")
	for i := 0; i+1 < len(letters); i++ {
		next := leaf(letters[i+1 : i+2])
		left, right = node(">", leaf(letters[i:i+1]), left), node(">", node("*", next, next), right)
	}
	return left.String(), right.String()
}

func TestJoinsThatWouldBeTooLarge(t *testing.T) {
	for n, want := range map[int]string{
		2: "(> (* a a) o)",
		3: "(> (* a a) (> (* (* a a) (* a a)) o))",
		4: "(> (* a a) (> (* (* a a) (* a a)) (> (* (* (* a a) (* a a)) (* (* a a) (* a a))) o)))",
		5: "", 6: "", 8: "", 10: "",
	} {
		a, b := doubled(allLetters[:n])
		joined, ok := impl.TypeJoin(a, b)
		checkText(t, "TypeJoin of "+a+" and "+b, joined, ok, want)
	}
	half, more := chain(9, "o", "b"), chain(10, "o", "b")
	for _, c := range [][3]string{
		{"(* a a)", "(* b " + half + ")", ""},
		{"(* a a)", "(* c " + half + ")", "(* " + chain(9, "o", "a") + " " + chain(9, "o", "a") + ")"},
		{"(* a a)", "(* c " + more + ")", ""},
		{chain(19, "a", "b"), chain(19, "c", "o"), chain(19, "a", "o")},
		{"a", chain(19, "o", "z"), chain(19, "o", "a")},
		{chain(19, "a", "b"), chain(18, "c", "(> d d)"), chain(19, "a", "a")},
		{chain(18, "o", "a"), chain(18, "o", "(* b c)"), chain(18, "o", "(* a b)")},
		{"(> a " + chain(18, "o", "a") + ")", "(> (> b c) d)", ""},
		{"(> (> o o) " + chain(17, "o", "a") + ")", "(> b " + chain(17, "o", "(* c d)") + ")", ""},
		{"(> (> o o) " + chain(17, "o", "a") + ")", "(> b " + chain(17, "o", "o") + ")", "(> (> o o) " + chain(17, "o", "o") + ")"},
		{"(> (> a o) " + chain(17, "o", "a") + ")", "(> b " + chain(17, "o", "(* c d)") + ")", ""},
	} {
		joined, ok := impl.TypeJoin(c[0], c[1])
		checkText(t, "TypeJoin of "+c[0]+" and "+c[1], joined, ok, c[2])
	}
}

func TestLettersOfTypesApart(t *testing.T) {
	for n := 1; n <= 20; n++ {
		for m := 1; m <= 20; m++ {
			joined, ok := impl.TypeApart(row(allLetters[:n]), row(allLetters[:m]))
			want := ""
			if n+m <= 25 {
				want = row(allLetters[:max(n, m)])
			}
			checkText(t, "TypeApart of rows", joined, ok, want)
		}
	}
	// As many letters are asked if the variables are apart already, and a letter that stands twice is asked once.
	joined, ok := impl.TypeApart(row("abcdefghijklm"), row("npqrstuvwxyz"))
	checkText(t, "TypeApart of 13 and 12 letters", joined, ok, row("abcdefghijklm"))
	joined, ok = impl.TypeApart(row("abcdefghijklmn"), row("npqrstuvwxyz"))
	checkText(t, "TypeApart of 14 and 12 letters", joined, ok, "")
	joined, ok = impl.TypeApart(row("abcdefghijklmabcdefg"), row("abcdefghijklaaaaaaaa"))
	if want := joinText(rowType("abcdefghijklmabcdefg"), rowType("abcdefghijklaaaaaaaa").primed()); want == "" {
		t.Error("the test has no case of letters that stand twice")
	} else {
		checkText(t, "TypeApart of letters that stand twice", joined, ok, want)
	}
	// There are letters enough for a result that has few, but not for both types.
	joined, ok = impl.TypeApart(row(allLetters[:20]), row("abcdefo"))
	checkText(t, "TypeApart of 20 and 6 letters", joined, ok, "")
}
