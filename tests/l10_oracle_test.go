package tests

import (
	"math/rand"
	"slices"
	"strings"
	"testing"

	"loop.example/endsoflife/impl"
)

// The functions of this file tell by other means than the program what chapter 10 says of a text: bytes are left out of
// it by what the solver of chapter 3 knows and by what is found in the text of each scope, until nothing is any more.

// simpler is what chapter 10 says of a program.
type simpler struct {
	dead, unused, vars, simple string
	rounds                     int
}

// withoutDead returns a program without the steps at which nothing is known.
func withoutDead(p string, e expected, states map[int]string) string {
	text := ""
	for at := 0; at < len(p); at++ {
		step, begins := e.steps[at]
		if begins && states[at] == "" {
			at += len(step) - 1
			continue
		}
		text += p[at : at+1]
	}
	return text
}

// splitScope returns the variables of a scope that are found in its steps, and the others, as they are declared.
// None of them is declared again within it, so that each byte found is that of a step.
func splitScope(scope string) (used, unused string) {
	vars, body, _ := strings.Cut(scope[1:], ":")
	for _, v := range strings.Split(vars, "") {
		if strings.Contains(body, v) {
			used += v
		} else {
			unused += v
		}
	}
	return used, unused
}

// unusedIn returns the unused variables of all scopes of a program.
func unusedIn(e expected) string {
	var vars []string
	for _, step := range e.steps {
		if step[0] == '{' {
			_, unused := splitScope(step)
			vars = append(vars, strings.Split(unused, "")...)
		}
	}
	slices.Sort(vars)
	return strings.Join(slices.Compact(vars), "")
}

// withoutUnused returns a program whose scopes declare what is found in their steps alone.
func withoutUnused(p string, e expected) string {
	bytes := strings.Split(p, "")
	for _, at := range e.starts {
		step := e.steps[at]
		if step[0] != '{' {
			continue
		}
		used, unused := splitScope(step)
		if used == "" && at == 0 {
			used = unused[:1]
		}
		colon := at + strings.IndexByte(step, ':')
		for i := at + 1; i < colon; i++ {
			if !strings.Contains(used, p[i:i+1]) {
				bytes[i] = ""
			}
		}
		if used == "" {
			bytes[at], bytes[colon], bytes[at+len(step)-1] = "", "", ""
		}
	}
	return strings.Join(bytes, "")
}

// simplerOf tells what becomes of a program; there are no more rounds than bytes.
func simplerOf(t *testing.T, p string) simpler {
	t.Helper()
	e := expectedOf(p)
	states, _ := statesOf(p, e)
	s := simpler{dead: withoutDead(p, e, states), unused: unusedIn(e), vars: withoutUnused(p, e)}
	for s.simple = p; s.rounds <= len(p); s.rounds++ {
		q := s.simple
		for pass := range 3 {
			e := expectedOf(q)
			states, _ := statesOf(q, e)
			q = [3]string{withoutDead(q, e, states), putInto(q, e, states, 0, len(q), false), withoutUnused(q, e)}[pass]
		}
		if q == s.simple {
			return s
		}
		s.simple = q
	}
	t.Fatalf("%q gets simpler for ever", p)
	return s
}

// checkText holds a text that a function returns and its last result against what is expected.
func checkText(t *testing.T, f func(string) (string, bool), name, p, text string, isProgram bool) {
	t.Helper()
	if got, ok := f(p); got != text || ok != isProgram {
		t.Errorf("%s(%.90q) = %q, %v, not %q, %v", name, p, got, ok, text, isProgram)
	}
}

// checkSimpler holds all functions of chapter 10 against what is expected of a text.
func checkSimpler(t *testing.T, p string, s simpler, isProgram bool) {
	t.Helper()
	checkText(t, impl.DropDead, "DropDead", p, s.dead, isProgram)
	checkText(t, impl.UnusedVars, "UnusedVars", p, s.unused, isProgram)
	checkText(t, impl.DropVars, "DropVars", p, s.vars, isProgram)
	checkText(t, impl.Simplify, "Simplify", p, s.simple, isProgram)
	if got := impl.CountRounds(p); got != s.rounds {
		t.Errorf("CountRounds(%.90q) = %d, not %d", p, got, s.rounds)
	}
	if got := impl.IsSimple(p); got != (s.rounds == 0) {
		t.Errorf("IsSimple(%.90q) = %v", p, got)
	}
}

// checkNoSimpler tells all that the chapter says of a text that is no program.
func checkNoSimpler(t *testing.T, p string) {
	t.Helper()
	checkSimpler(t, p, simpler{rounds: -1}, false)
}

// checkChapter10 holds all functions of the chapter against what other means tell of a text.
func checkChapter10(t *testing.T, p string) {
	t.Helper()
	if !expectedOf(p).valid {
		checkNoSimpler(t, p)
		return
	}
	checkSimpler(t, p, simplerOf(t, p), true)
	checkNothingLeft(t, p)
}

// checkNothingLeft tells whether nothing is left in what a program is simplified to that could get simpler.
func checkNothingLeft(t *testing.T, p string) {
	t.Helper()
	q, _ := impl.Simplify(p)
	checkSimpler(t, q, simpler{dead: q, unused: outermostUnused(q), vars: q, simple: q}, true)
	if dead, ok := impl.DeadSteps(q); len(dead) > 0 || !ok {
		t.Errorf("DeadSteps(%q) = %v, %v, from %q", q, dead, ok, p)
	}
	if tidy, ok := impl.TidyFlags(q); tidy != q || !ok {
		t.Errorf("TidyFlags(%q) = %q, %v, from %q", q, tidy, ok, p)
	}
	if impl.DepthOf(q) > impl.DepthOf(p) || len(q) > len(p) {
		t.Errorf("Simplify(%q) = %q", p, q)
	}
}

// outermostUnused returns the variable of an outermost scope that declares one alone, if it is unused, as no other one may be.
func outermostUnused(p string) string {
	if p[2] == ':' && strings.Count(p, p[1:2]) == 1 {
		return p[1:2]
	}
	return ""
}

// checkSameRuns tells whether the runs of a program and of all that chapter 10 makes of it are the same.
func checkSameRuns(t *testing.T, random *rand.Rand, p string) {
	t.Helper()
	dead, _ := impl.DropDead(p)
	vars, _ := impl.DropVars(p)
	simple, _ := impl.Simplify(p)
	for _, q := range []string{dead, vars, simple} {
		if choices, differ := impl.FirstOther(p, q); differ || !impl.SameEvents(p, q) {
			t.Errorf("FirstOther(%q, %q) = %q, %v", p, q, choices, differ)
		}
		for range 3 {
			checkRunOfBoth(t, p, q, choicesAtRandom(random, p))
			checkRunOfBoth(t, q, p, choicesAtRandom(random, q))
		}
	}
}

// unsimplified makes a program longer by what may be left out again: steps that leave or destroy nothing,
// variables that no step has, and scopes that declare those alone, as many as fit.
func unsimplified(random *rand.Rand, p string) string {
	for range 10 {
		starts, _ := impl.StepsOf(p)
		at := starts[random.Intn(len(starts))]
		step, _ := impl.StepAt(p, at)
		around, _ := impl.InScope(p, at)
		v := "abcdef"[random.Intn(6):][:1]
		ahead, inside, behind := p[:at], step, p[at+len(step):]
		switch kind := random.Intn(8); {
		case kind < 1 && around != "":
			inside = "?[" + "^!"[random.Intn(2):][:1] + "][" + step + "]"
		case kind < 2 && around != "":
			inside = "^!"[random.Intn(2):][:1] + step
		case kind < 4 && around != "":
			inside = "~" + around[:1] + step
		case kind < 6 && around != "":
			inside = "{" + v + ":" + step + "}"
		case step[0] == '{':
			inside = "{" + v + step[1:]
		}
		if q := ahead + inside + behind; impl.ProgramValid(q) {
			p = q
		}
	}
	return p
}

// programsToSimplify returns programs at random, most of which can be made simpler.
func programsToSimplify(t *testing.T, seed int64, count int) []string {
	t.Helper()
	return changedPrograms(t, seed, count, unsimplified)
}
