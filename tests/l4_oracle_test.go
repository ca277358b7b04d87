package tests

import (
	"slices"
	"strings"
	"testing"

	"loop.example/endsoflife/impl"
)

// The functions of this file tell by other means than the program what chapter 4 says of a text: faults by the
// text of a step and what the solver of chapter 3 knows there, first faults by the walker of chapter 2.

// needOfText returns the variable whose value a step needs, the empty string if it needs none.
func needOfText(step string) string {
	if step != "" && strings.Contains("=.-", step[:1]) {
		return step[len(step)-1:]
	}
	return ""
}

// faultInState returns the fault of a step of which something is known.
func faultInState(step, state string) int {
	need := needOfText(step)
	if state == "" {
		return impl.FaultDead
	}
	if need == "" {
		return impl.FaultNone
	}
	return map[byte]int{'1': impl.FaultNone, '?': impl.FaultMaybe, '0': impl.FaultAlways}[state[need[0]-'a']]
}

// firstFault tells ShowFault by going through all runs, the shorter ones first.
func firstFault(p string) (string, bool) {
	begun := []string{""}
	for len(begun) > 0 && len(begun[0]) <= 6 {
		choices := begun[0]
		begun = begun[1:]
		w := walkedOf(p, choices)
		if w.right && w.exit == impl.ExitFault {
			return choices, true
		}
		for i := range w.asks {
			begun = append(begun, choices+w.asks[i:i+1])
		}
	}
	return "", false
}

// checkFault holds the functions that are given a byte against what is expected there; nothing if no step begins there.
func checkFault(t *testing.T, p string, at, fault int, need string) {
	t.Helper()
	if got := impl.FaultOf(p, at); got != fault {
		t.Errorf("FaultOf(%q, %d) = %d, not %d", p, at, got, fault)
	}
	if got, ok := impl.NeedOf(p, at); got != need || ok != (need != "") {
		t.Errorf("NeedOf(%q, %d) = %q, %v, not %q", p, at, got, ok, need)
	}
}

// checkSteps holds StepsWith, IsSafe and IsBroken against the steps of a program by their faults.
func checkSteps(t *testing.T, p string, steps [4][]int) {
	t.Helper()
	for fault := -3; fault <= 7; fault++ {
		right := fault >= 0 && fault < len(steps)
		var want []int
		if right {
			want = steps[fault]
		}
		if got, ok := impl.StepsWith(p, fault); !slices.Equal(got, want) || ok != right {
			t.Errorf("StepsWith(%q, %d) = %v, %v, not %v", p, fault, got, ok, want)
		}
	}
	maybe, always := len(steps[impl.FaultMaybe]) > 0, len(steps[impl.FaultAlways]) > 0
	if got := impl.IsSafe(p); got == (maybe || always) {
		t.Errorf("IsSafe(%q) = %v", p, got)
	}
	if got := impl.IsBroken(p); got != always {
		t.Errorf("IsBroken(%q) = %v", p, got)
	}
}

// checkChapter4 holds all functions of chapter 4 that take a program against what is expected of a text.
func checkChapter4(t *testing.T, p string) {
	t.Helper()
	e := expectedOf(p)
	if !e.valid {
		checkNoFaults(t, p)
		return
	}
	states, _ := statesOf(p, e)
	var steps [4][]int
	for at := -2; at <= len(p)+2; at++ {
		if _, begins := e.steps[at]; !begins {
			checkFault(t, p, at, -1, "")
			continue
		}
		fault := faultInState(e.steps[at], states[at])
		checkFault(t, p, at, fault, needOfText(e.steps[at]))
		steps[fault] = append(steps[fault], at)
	}
	checkSteps(t, p, steps)
	want, some := firstFault(p)
	if got, ok := impl.ShowFault(p); got != want || ok != some {
		t.Errorf("ShowFault(%q) = %q, %v, not %q, %v", p, got, ok, want, some)
	}
}

// checkNoFaults tells all that the chapter says of a text that is no program.
func checkNoFaults(t *testing.T, p string) {
	t.Helper()
	for at := -2; at <= min(len(p), 85)+2; at++ {
		checkFault(t, p, at, -1, "")
	}
	for fault := -2; fault <= 5; fault++ {
		if got, ok := impl.StepsWith(p, fault); len(got) != 0 || ok {
			t.Errorf("StepsWith(%.90q, %d) = %v, %v", p, fault, got, ok)
		}
	}
	choices, ok := impl.ShowFault(p)
	if impl.IsSafe(p) || impl.IsBroken(p) || choices != "" || ok {
		t.Errorf("%.90q: %v, %v, %q, %v", p, impl.IsSafe(p), impl.IsBroken(p), choices, ok)
	}
}
