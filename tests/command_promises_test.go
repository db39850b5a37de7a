package tests

import (
	"fmt"
	"strings"
	"testing"

	"loop.example/parametric/impl"
)

// withoutLast returns the lines of an output but the last one, and the last one.
func withoutLast(t *testing.T, output string) (string, string) {
	t.Helper()
	lines := strings.SplitAfter(output, "\n")
	if n := len(lines); n < 2 || lines[n-1] != "" || !strings.HasPrefix(lines[n-2], "atoms ") {
		t.Errorf("an output is %q", short(output))
		return output, ""
	}
	return strings.Join(lines[:len(lines)-2], ""), lines[len(lines)-2]
}

// checkIfRoom compares the output of a script with that which is wanted, if it is not too long, and tells whether it is not.
func checkIfRoom(t *testing.T, script string, want string) bool {
	t.Helper()
	if len(script) > impl.MaxScript {
		checkExecute(t, script, "too long\n")
		return false
	}
	checkExecute(t, script, want)
	return true
}

// bytesOf returns a text of a number of bytes of any kind, but no newline.
func (d *dice) bytesOf(count int) string {
	text := []byte{}
	for range count {
		b := byte(d.below(256))
		if b == '\n' {
			b = ' '
		}
		text = append(text, b)
	}
	return string(text)
}

func TestPromise87(t *testing.T) {
	checkExecute(t, "", "atoms 3\n")
	d := dice(87)
	long := 0
	for range 500 {
		script := d.script(0)
		want := impl.Execute(script)
		withoutLast(t, want)
		for _, line := range []string{"show", "term true", "zzz", d.scriptLine(), d.bytesOf(d.below(30)), d.bytesOf(impl.MaxScript - len(script)), d.bytesOf(impl.MaxScript - len(script) + 1)} {
			line = strings.ReplaceAll(line, "\n", "")
			if len(script+line) > impl.MaxScript {
				long++
				checkExecute(t, script+line, "too long\n")
				continue
			}
			checkExecute(t, script+line, want)
		}
	}
	checkCount(t, "a script is too long", long, 500)
	for n := range 1500 {
		text := d.bytesOf(n) + strings.Repeat("\n", n%3) + d.bytesOf(d.below(5))
		if impl.Execute(text) == "" {
			t.Errorf("the output of %q is empty", text)
		}
	}
}

func TestPromise88(t *testing.T) {
	d := dice(88)
	changed := 0
	for range 1000 {
		script := d.script(11)
		answers, last := withoutLast(t, impl.Execute(script))
		checkExecute(t, script+"zzz\nterm x\n", answers+"what\nno\n"+last)
		if last != "atoms 3\n" {
			changed++
		}
	}
	checkCount(t, "the term has become another one", changed, 500)
}

func TestPromise89(t *testing.T) {
	d := dice(89)
	changed := 0
	for range 1000 {
		script := d.script(10)
		answers, last := withoutLast(t, impl.Execute(script))
		output := impl.Execute(script + "show\nshow\n")
		shown, _ := withoutLast(t, output)
		lines := strings.Split(shown, "\n")
		term := lines[len(lines)-2]
		if output != answers+term+"\n"+term+"\n"+last || last != fmt.Sprint("atoms ", impl.TermSize(term), "\n") {
			t.Errorf("Execute(%q) shows at the end %q, and without it %q", script, output, last)
		}
		if term != "(lam x0 x0)" {
			changed++
		}
	}
	checkCount(t, "the term has become another one", changed, 500)
}

// scriptTerms returns terms with types, and without, for scripts.
func scriptTerms(seed int) []string {
	d := dice(seed)
	all := library()
	for range 1500 {
		all = append(all, d.closed(3+d.below(30), nil), d.busy(5+d.below(60), nil), d.typed(d.typeOf(1+2*d.below(4), "o"), nil, 1+d.below(7)))
		x, _ := d.overNames()
		all = append(all, x)
	}
	texts := []string{}
	for _, x := range append(all, calculations()...) {
		if x.size() <= impl.TermMax {
			texts = append(texts, x.String())
		}
	}
	return texts
}

func TestPromise90(t *testing.T) {
	held, long, untyped := 0, 0, 0
	for _, s := range scriptTerms(90) {
		kind, ok := impl.Infer(s)
		if !ok {
			untyped++
			checkIfRoom(t, "term "+s+"\ntype\n", "no\n(> a a)\natoms 3\n")
			continue
		}
		if checkIfRoom(t, "term "+s+"\ntype\nhas "+kind+"\n", fmt.Sprint("ok\n", kind, "\nyes\natoms ", impl.TermSize(s), "\n")) {
			held++
		} else {
			long++
		}
	}
	checkCount(t, "Infer succeeds", held, 2000)
	checkCount(t, "Infer fails", untyped, 500)
	checkCount(t, "there is no room", long, 10)
}

func TestPromise91(t *testing.T) {
	held, changed := 0, 0
	for _, s := range scriptTerms(91) {
		normal, ok := impl.NormalOf(s)
		if _, typed := impl.Infer(s); !ok || !typed {
			continue
		}
		if checkIfRoom(t, "term "+s+"\nnormal\nshow\n", fmt.Sprint("ok\nok\n", normal, "\natoms ", impl.TermSize(normal), "\n")) {
			held++
			if !impl.TermAlike(normal, s) {
				changed++
			}
		}
	}
	checkCount(t, "NormalOf succeeds", held, 2000)
	checkCount(t, "the term is not normal", changed, 800)
}

func TestPromise92(t *testing.T) {
	for n := range 30 {
		canonical, _ := impl.Numeral(n)
		for _, s := range []string{canonical, numeral(n), "(lam x (lam x1 " + around(n, "(app x ", "x1", ")") + "))"} {
			if !checkIfRoom(t, "lib succ\napp "+s+"\nnumeral\n", fmt.Sprint("ok\nok\n", n+1, "\natoms ", 14+5+2*n, "\n")) {
				t.Errorf("there is no room for the numeral of %d", n)
			}
		}
	}
	checkExecute(t, "lib succ\napp "+numeral(30)+"\nnumeral\n", "ok\nok\nno\natoms 79\n")
}

func TestPromise93(t *testing.T) {
	d := dice(93)
	texts := scriptTerms(93)
	held, not := 0, 0
	for range 12000 {
		s, by := texts[d.below(len(texts))], texts[d.below(len(texts))]
		if d.below(3) == 0 {
			s, by = d.oneOf(libraryTexts()...), d.oneOf(libraryTexts()...)
		}
		if _, ok := impl.Infer(s); !ok {
			continue
		}
		kind, ok := impl.InferApp(s, by)
		if !ok {
			not++
			checkIfRoom(t, "term "+s+"\napp "+by+"\nshow\n", fmt.Sprint("ok\nno\n", s, "\natoms ", impl.TermSize(s), "\n"))
			continue
		}
		if checkIfRoom(t, "term "+s+"\napp "+by+"\ntype\n", fmt.Sprint("ok\nok\n", kind, "\natoms ", 1+impl.TermSize(s)+impl.TermSize(by), "\n")) {
			held++
		}
	}
	checkCount(t, "InferApp succeeds", held, 1000)
	checkCount(t, "InferApp fails", not, 1000)
}
