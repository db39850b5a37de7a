package tests

import (
	"fmt"
	"slices"
	"strings"
	"testing"

	"loop.example/parametric/impl"
)

func TestConstantsOfScripts(t *testing.T) {
	if impl.MaxScript != 700 {
		t.Errorf("the constant is %d", impl.MaxScript)
	}
}

// Lines have ; between them.
func TestScriptsByHand(t *testing.T) {
	for _, c := range [][2]string{
		// The first term.
		{"show", "(lam x0 x0);atoms 3"}, {"type", "(> a a);atoms 3"}, {"has (> o o);has (> (* b o) (* b o))", "yes;yes;atoms 3"}, {"numeral", "1;atoms 3"}, {"mean 1;mean 2;mean 3;mean 4", "0;2;21;228;atoms 3"}, {"count 1;count 2;count 3", "1;1;1;atoms 3"}, {"step", "no;atoms 3"}, {"normal;unfold;show", "ok;ok;(lam x0 x0);atoms 3"}, {"app true;show", "ok;(app (lam x0 x0) true);atoms 5"},
		// A term is taken as it is written, and written canonically when something is made of it.
		{"term (lam y y);show", "ok;(lam y y);atoms 3"}, {"term (lam y (let y y y));show;normal;show", "ok;(lam y (let y y y));ok;(lam x0 x0);atoms 3"}, {"term (lam z9 (lam a z9));show;type;step;show", "ok;(lam z9 (lam a z9));(> a (> b a));no;(lam z9 (lam a z9));atoms 5"}, {"term (lam y y);normal;show", "ok;ok;(lam x0 x0);atoms 3"}, {"term (lam y y);unfold;show", "ok;ok;(lam x0 x0);atoms 3"}, {"term (lam y y);app (lam y y);show", "ok;ok;(app (lam x0 x0) (lam x1 x1));atoms 7"},
		{"term true;show;type", "ok;true;o;atoms 1"}, {"term false;show;normal;show;unfold;show;step", "ok;false;ok;false;ok;false;no;atoms 1"}, {"term (pair true (lam x x));type;has (* o (> o o));has (* o a)", "ok;(* o (> a a));yes;no;atoms 5"},
		// One term after the other.
		{"term true;term false;show", "ok;ok;false;atoms 1"}, {"term true;lib not;show", "ok;ok;(lam x0 (if x0 false true));atoms 6"}, {"lib not;term true;show", "ok;ok;true;atoms 1"}, {"lib not;lib and;type", "ok;ok;(> o (> o o));atoms 8"}, {"lib not;app true;normal;show", "ok;ok;ok;false;atoms 1"}, {"lib swap;app (pair true (lam x x));type;normal;show", "ok;ok;(* (> a a) o);ok;(pair (lam x0 x0) true);atoms 5"},
		// Steps: the first redex of the whole term comes first.
		{"term (app (lam x (fst (pair x x))) (let y true y));step;show;step;show;step;show;step;show", "ok;ok;(fst (pair (let x0 true x0) (let x1 true x1)));ok;(let x0 true x0);ok;true;no;true;atoms 1"}, {"term (pair (fst (pair true false)) (snd (pair true false)));step;show;step;show;step", "ok;ok;(pair true (snd (pair true false)));ok;(pair true false);no;atoms 3"}, {"term (if true (lam x x) (lam y y));step;show", "ok;ok;(lam x0 x0);atoms 3"},
		// Unfolding: a let becomes what it stands for, or an application.
		{"term (let f (lam x x) (pair (app f true) f));unfold;show;type", "ok;ok;(pair (app (lam x0 x0) true) (lam x1 x1));(* o (> a a));atoms 9"}, {"term (let x true false);unfold;show", "ok;ok;(app (lam x0 false) true);atoms 5"}, {"term (let x true (let y x (pair y y)));unfold;show;unfold;show", "ok;ok;(pair true true);ok;(pair true true);atoms 3"}, {"term (app (lam x x) (let y true y));unfold;show", "ok;ok;(app (lam x0 x0) true);atoms 5"},
		{"term (let f (lam x x) (pair (app f true) f));step;show;normal;show", "ok;ok;(pair (app (lam x0 x0) true) (lam x1 x1));ok;(pair true (lam x0 x0));atoms 5"}, {"term (let f (lam x x) (pair (app f true) f));normal;show", "ok;ok;(pair true (lam x0 x0));atoms 5"}, {"term (let x true false);normal;show", "ok;ok;false;atoms 1"}, {"term (lam z (let y z (pair y y)));normal;show", "ok;ok;(lam x0 (pair x0 x0));atoms 5"},
		// A step may leave a term with a more general type.
		{"term (app (lam f (pair (app f true) f)) (lam x x));type;has (* o (> a a));step;type;has (* o (> a a))", "ok;(* o (> o o));no;ok;(* o (> a a));yes;atoms 9"},
		// Types.
		{"term (lam f (lam g (lam x (app f (app g x)))));type;has (> (> a b) (> (> c a) (> c b)));has (> (> z y) (> (> x z) (> x y)));has (> (> o o) (> (> o o) (> o o)));has (> (> o a) (> (> o o) (> o o)));has (> (> a b) (> (> b a) (> a b)))", "ok;(> (> a b) (> (> c a) (> c b)));yes;yes;yes;no;no;atoms 11"}, {"term (lam x (lam y x));type;has (> a (> b a));has (> b (> a b));has (> o (> a o));has (> a (> a a));has (> a (> b b));has a;has o", "ok;(> a (> b a));yes;yes;yes;yes;no;no;no;atoms 5"}, {"term true;has o;has a;has b;has (* o o)", "ok;yes;no;no;no;atoms 1"},
		// Meanings.
		{"term true;mean 0;mean 1;mean 5;mean 9", "ok;1;1;1;1;atoms 1"}, {"term (lam x (if x false true));mean 0;mean 3;mean 8", "ok;1;1;1;atoms 6"}, {"term (pair true (lam x x));mean 1;mean 2;mean 3;mean 0;mean 5", "ok;1;6;48;no;no;atoms 5"}, {"term (lam x (lam y x));mean 1;mean 2;mean 3;mean 0;mean 5", "ok;0;12;no;no;no;atoms 5"}, {"term (lam p (snd p));type;mean 1;mean 2;mean 3;mean 4", "ok;(> (* a b) b);0;10;no;no;atoms 4"}, {"term (lam x (lam y x));type;count 1;count 2;count 3;mean 2", "ok;(> a (> b a));no;no;no;12;atoms 5"}, {"term (pair (lam u u) (lam u u));type;mean 1;mean 2;mean 3;mean 4;count 2", "ok;(* (> a a) (> b b));0;10;588;no;no;atoms 7"},
		{"term (app (lam x (app x true)) (lam y (if y false true)));mean 2;step;mean 2;normal;mean 2", "ok;0;ok;0;ok;0;atoms 1"}, {"lib two;mean 1;mean 2;mean 3", "ok;0;232;no;atoms 9"}, {"lib two;app (lam x x);mean 2;mean 3", "ok;ok;2;no;atoms 13"}, {"lib two;app (lam x x);normal;mean 2;mean 3", "ok;ok;ok;2;21;atoms 3"},
		// Counts.
		{"term true;count 1;count 2;count 3;count 0;count 4", "ok;2;2;2;no;no;atoms 1"}, {"term (lam x (if x x x));count 3;count 4", "ok;4;no;atoms 6"}, {"lib two;count 1;count 2;count 3", "ok;1;3;no;atoms 9"}, {"term (lam x (lam y (if true x y)));count 1;count 2;count 3", "ok;1;2;no;atoms 8"}, {"term (pair true (lam x x));count 1;count 2;count 3", "ok;2;2;2;atoms 5"}, {"term (pair (lam x x) (lam y y));count 2", "ok;no;atoms 7"}, {"lib succ;type;count 1;count 2;mean 1;mean 2", "ok;(> (> (> a b) (> c a)) (> (> a b) (> c b)));no;no;0;no;atoms 13"},
		// Numerals.
		{"lib zero;numeral;lib one;numeral;lib two;numeral", "ok;0;ok;1;ok;2;atoms 9"}, {"lib succ;numeral;app (lam f (lam x x));numeral;show", "ok;no;ok;1;(app (lam x0 (lam x1 (lam x2 (app x1 (app (app x0 x1) x2))))) (lam x3 (lam x4 x4)));atoms 19"}, {"lib add;app (lam f (lam x (app f (app f x))));app (lam f (lam x (app f x)));numeral;normal;show;numeral;type", "ok;ok;ok;3;ok;(lam x0 (lam x1 (app x0 (app x0 (app x0 x1)))));3;(> (> a a) (> a a));atoms 11"}, {"lib mul;app (lam f (lam x (app f (app f x))));app (lam f (lam x (app f (app f (app f x)))));numeral", "ok;ok;ok;6;atoms 33"}, {"lib exp;app (lam f (lam x (app f (app f x))));app (lam f (lam x (app f (app f (app f x)))));numeral", "ok;ok;ok;8;atoms 29"}, {"lib even;app (lam f (lam x (app f (app f x))));numeral;normal;show;numeral", "ok;ok;no;ok;true;no;atoms 1"},
	} {
		checkScriptByHand(t, c[0], c[1])
	}
}

func TestNoScripts(t *testing.T) {
	checkExecute(t, "", "atoms 3\n")
	// A last line without a newline is ignored, whatever it is.
	for _, line := range []string{"show", "zzz", "term true", "lib succ", "type", " ", "\x00", "\xff", "ter", "app true", "\r"} {
		checkExecute(t, line, "atoms 3\n")
		checkExecute(t, "term true\n"+line, "ok\natoms 1\n")
		checkExecute(t, "term (lam f f)\nzzz\nshow\n"+line, "ok\nwhat\n(lam f f)\natoms 3\n")
		checkExecute(t, "\n"+line, "what\natoms 3\n")
	}
	// Lines without anything.
	checkExecute(t, "\n", "what\natoms 3\n")
	checkExecute(t, "\n\n\n", "what\nwhat\nwhat\natoms 3\n")
	checkExecute(t, "\nshow\n\ntype\n\n", "what\n(lam x0 x0)\nwhat\n(> a a)\nwhat\natoms 3\n")
	// Nothing else ends a line.
	checkExecute(t, "show\rshow\n", "what\natoms 3\n")
	checkExecute(t, "show\r\nshow\n", "what\n(lam x0 x0)\natoms 3\n")
	checkExecute(t, "term true\r\nshow\n", "no\n(lam x0 x0)\natoms 3\n")
	checkExecute(t, "show\n\rshow\n", "(lam x0 x0)\nwhat\natoms 3\n")
	for _, end := range []string{"\x00", "\v", "\f", "\x85", "\u2028", ";", "\\n"} {
		checkExecute(t, "show"+end+"show\n", "what\natoms 3\n")
		checkExecute(t, "show"+end, "atoms 3\n")
	}
}

func TestScriptsOfManyBytes(t *testing.T) {
	long := "too long\n"
	for _, n := range []int{1, 2, 17, 698, 699, 700} {
		checkExecute(t, strings.Repeat("\n", n), strings.Repeat("what\n", n)+"atoms 3\n")
		checkExecute(t, strings.Repeat("x", n), "atoms 3\n")
		checkExecute(t, strings.Repeat(" ", n), "atoms 3\n")
	}
	for _, n := range []int{701, 702, 703, 1000, 1400, 6001, 1 << 20} {
		for _, part := range []string{"\n", "x", " ", "show\n", "\x00"} {
			checkExecute(t, strings.Repeat(part, n)[:n], long)
		}
	}
	// All 700 bytes are read, and with one more none.
	lines := strings.Repeat("show\n", 139)
	checkExecute(t, lines+"type\n", strings.Repeat("(lam x0 x0)\n", 139)+"(> a a)\natoms 3\n")
	checkExecute(t, lines+"type\n\n", long)
	checkExecute(t, lines+"type\ns", long)
	checkExecute(t, lines+"type", strings.Repeat("(lam x0 x0)\n", 139)+"atoms 3\n")
	checkExecute(t, lines+"what?", strings.Repeat("(lam x0 x0)\n", 139)+"atoms 3\n")
	checkExecute(t, "\n"+lines+"zzz\n", "what\n"+strings.Repeat("(lam x0 x0)\n", 139)+"what\natoms 3\n")
	// Bytes count, and not letters.
	checkExecute(t, strings.Repeat("é", 349)+"x\n", "what\natoms 3\n")
	checkExecute(t, strings.Repeat("é", 350), "atoms 3\n")
	checkExecute(t, strings.Repeat("é", 350)+"\n", long)
	checkExecute(t, strings.Repeat("é", 351), long)
	// One line alone.
	row := "(lam x " + around(75, "(if x x ", "x", ")") + ")"
	for _, n := range []int{699, 700, 701} {
		script := "term " + row + strings.Repeat("\n", n-5-len(row))
		want := "ok\n" + strings.Repeat("what\n", n-6-len(row)) + "atoms 228\n"
		if n > 700 {
			want = long
		}
		checkExecute(t, script, want)
	}
}

// Each line is a word that needs a rest without one, a word that needs none with one, or no command at all.
func TestLinesThatAreNoCommands(t *testing.T) {
	lines := []string{
		"", " ", "  ", "zzz", "x", "x0", "0", "true", "(lam x0 x0)", "ok", "no", "yes", "what", "atoms", "atoms 3", "too long", "quit", "help", "infer", "mean2", "count1", "libsucc", "appx", "hasa", "termx", "term(lam x x)", "\x00", "\xff", "\r", "\t", "é", "#", "# show", "lam", "let", "reduce", "numerals", "steps", "norm", "unfolds", "types", "size", "free", "canon", "library", "name", "function", "terms",
	}
	for _, word := range []string{"term", "lib", "app", "has", "mean", "count"} {
		rest := map[string]string{"term": "true", "lib": "succ", "app": "true", "has": "o", "mean": "1", "count": "1"}[word]
		whole := word + " " + rest
		lines = append(lines, word, word+"\x00", word+"\t"+rest, word+"\r", word+"\xa0"+rest, word+":"+rest, word+"="+rest, word+rest, word+"s "+rest, word+"\r "+rest, word+"\x00 "+rest, word[1:]+" "+rest, word[:len(word)-1]+" "+rest, " "+word, " "+whole, "  "+whole, "x"+whole, "\x00"+whole, "\xff"+whole, "\ufeff"+whole, strings.ToUpper(word)+" "+rest, strings.ToUpper(word[:1])+word[1:]+" "+rest, rest+" "+word, "\t"+whole, word+word+" "+rest)
	}
	for _, word := range []string{"step", "normal", "unfold", "show", "type", "numeral"} {
		lines = append(lines, word+" ", word+"  ", word+" 1", word+" true", word+" "+word, word+"\t", word+"\r", word+"\x00", word+"\xff", word+"s", word+word, " "+word, " "+word+" ", "\t"+word, "x"+word, "\x00"+word, "\ufeff"+word, word[1:], word[:len(word)-1], strings.ToUpper(word), strings.ToUpper(word[:1])+word[1:], word[:2]+" "+word[2:], word+",", word+".", word+"-")
	}
	for _, line := range lines {
		checkAnswer(t, line, "what")
	}
}

func TestLinesThatFail(t *testing.T) {
	untyped := []string{"(lam x (app x x))", "(app true true)", "(fst true)", "(snd (lam x x))", "(if (lam x x) true false)", "(if true true (lam x x))", "(pair true (app false true))", "(let x (app true true) false)", "(let f (lam x x) (app (fst f) true))", "(lam f (pair (app f true) (app f f)))", omegaTerm}
	open := []string{"x", "x0", "z999", "(lam x y)", "(lam x0 x1)", "(app (lam x x) y)", "(pair true x)", "(let x x true)", "(let y true x)", "(fst (pair true z))", "(if x true false)"}
	no := []string{"", " ", "(lam x x) ", " (lam x x)", "(lam  x x)", "(lam x x)\r", "(lam x x)(lam x x)", "(lam x x) true", "lam x x", "(lam x x", "(LAM x x)", "1", "true false", "o", "(> a a)", "succ", "term true", "(lam x1234 true)", "(numeral 1)", "\x00", "(lam true true)"}
	for _, s := range slices.Concat(untyped, open, no, badTermsInLines) {
		checkAnswer(t, "term "+s, "no")
		checkAnswer(t, "app "+s, "no")
	}
	for _, s := range append(inLines(notNamesOfLibrary()), "lib", "add 1", "succ succ", "Zero", "SWAP") {
		checkAnswer(t, "lib "+s, "no")
	}
	for _, s := range append(slices.Clone(badTypesInLines), "bool", "O", "(lam x x)", "(* a b c)", "(> a (> a a) a)") {
		checkAnswer(t, "has "+s, "no")
	}
	for _, s := range []string{"", " ", "-1", "-0", "-2", "+1", "+2", "00", "01", "02", "10", "11", "12", "22", "1 ", " 1", "2 ", " 2", "2\r", "2\x00", "\x002", "1.0", "2.", ".5", "1e0", "0x1", "1_0", "x", "o", "a", "two", "٢", "²", "２", "/", ":", "\x2f", "\x3a", "\xb2", "4294967297", "4294967298", "18446744073709551617", "18446744073709551618", "-18446744073709551614", "999999999999999999999"} {
		checkAnswer(t, "mean "+s, "no")
		checkAnswer(t, "count "+s, "no")
	}
	for _, s := range []string{"0", "4", "5", "6", "7", "8", "9"} {
		checkAnswer(t, "count "+s, "no")
	}
}

func TestLibraryOfScripts(t *testing.T) {
	for _, c := range libraryOfDocument() {
		x := read(c.text).canon()
		checkScript(t, "lib "+c.name+";show;type", fmt.Sprintf("ok;%s;%s;atoms %d", x, kindText(t, x), x.size()))
		checkScript(t, "term true;lib "+c.name+";lib "+c.name+"s;show", fmt.Sprintf("ok;ok;no;%s;atoms %d", x, x.size()))
	}
}

func TestDigits(t *testing.T) {
	for size := range 10 {
		mean, count := "no", "no"
		if size >= 1 && size <= 4 {
			mean = []string{"0", "2", "21", "228"}[size-1]
		}
		if size >= 1 && size <= 3 {
			count = "1"
		}
		checkScript(t, fmt.Sprintf("mean %d;count %d", size, size), mean+";"+count+";atoms 3")
		// Without variables, each digit is a size for all of them, but not for ParamCount.
		count = strings.ReplaceAll(count, "1", "2")
		checkScript(t, fmt.Sprintf("term false;mean %d;count %d", size, size), "ok;0;"+count+";atoms 1")
	}
}
