package tests

import (
	"strings"
	"sync"
	"testing"

	"loop.example/parametric/impl"
)

// checkCounts compares what a script answers with what the tests find on their own, and counts the outcomes of each word.
func checkCounts(t *testing.T, script string, counts map[string]int) {
	t.Helper()
	answers := checkPlain(t, script)
	for i, line := range strings.Split(script, "\n") {
		if i >= len(answers)-2 {
			break
		}
		word, _, _ := strings.Cut(line, " ")
		switch answers[i] {
		case "what":
			counts["what"]++
		case "no":
			counts[word+": no"]++
		default:
			counts[word]++
		}
	}
}

func TestScripts(t *testing.T) {
	d := dice(101)
	counts := map[string]int{}
	for range 2500 {
		checkCounts(t, d.script(0), counts)
	}
	for _, what := range strings.Split("what,term,lib,app,step,normal,unfold,show,type,has,mean,count,numeral,term: no,lib: no,app: no,step: no,has: no,mean: no,count: no,numeral: no", ",") {
		checkCount(t, what, counts[what], 200)
	}
}

// scriptsWithOutputs returns scripts with what they answer.
func scriptsWithOutputs(seed int, count int) ([]string, []string) {
	d := dice(seed)
	scripts, outputs := []string{""}, []string{"atoms 3\n"}
	for range count {
		script := d.script(0)
		scripts, outputs = append(scripts, script), append(outputs, impl.Execute(script))
	}
	return scripts, outputs
}

// What one script did changes no answer of another.
func TestScriptsShareNoMemory(t *testing.T) {
	scripts, outputs := scriptsWithOutputs(102, 300)
	d := dice(103)
	for range 1500 {
		k := d.below(len(scripts))
		checkExecute(t, scripts[k], outputs[k])
	}
	for k := range scripts {
		// The term of the one ahead is not that of this one.
		checkExecute(t, "show\n", "(lam x0 x0)\natoms 3\n")
		checkExecute(t, scripts[k], outputs[k])
		checkExecute(t, scripts[k], outputs[k])
	}
}

func TestScriptsAtTheSameTime(t *testing.T) {
	scripts, outputs := scriptsWithOutputs(104, 100)
	var all sync.WaitGroup
	for first := range 4 {
		all.Go(func() {
			for k := range scripts {
				place := (k + first*25) % len(scripts)
				checkExecute(t, scripts[place], outputs[place])
			}
		})
	}
	all.Wait()
}

// A script of lines is not just what its lines are alone: each one has the term that those ahead left.
func TestLinesThatDependOnOthers(t *testing.T) {
	d := dice(105)
	changed := 0
	for range 400 {
		script := d.script(8)
		left := impl.Execute(script + "show\n")
		lines := strings.Split(left, "\n")
		term := lines[len(lines)-3]
		line := d.scriptLine() + "\n"
		if len(script)+len(line)+5 > impl.MaxScript || len("term "+term+"\n"+line+"show\n") > impl.MaxScript {
			continue
		}
		// Behind the script, a line does what it does for its term alone.
		behind := strings.Split(impl.Execute(script+line+"show\n"), "\n")
		alone := strings.Split(impl.Execute("term "+term+"\n"+line+"show\n"), "\n")
		if got, want := strings.Join(behind[len(behind)-4:], "\n"), strings.Join(alone[len(alone)-4:], "\n"); got != want {
			t.Errorf("behind %q the line %q has the output %q, and for the term %q %q", script, line, got, term, want)
		}
		if alone[len(alone)-3] != term {
			changed++
		}
	}
	checkCount(t, "a line changes the term", changed, 80)
}
