package tests

import (
	"slices"
	"strconv"
	"strings"
	"testing"

	"loop.example/endsoflife/impl"
)

// The functions of this file tell by other means than the program what chapter 5 says of a text: plans by the byte at
// a point and what the solver of chapter 3 knows there, and what a run destroys by doing the plans and what is said alone.

// ownAt returns the variables of the scopes of a program by the bytes of their }.
func ownAt(e expected) map[int]string {
	own := map[int]string{}
	for _, at := range e.starts {
		if step := e.steps[at]; step[0] == '{' {
			vars, _, _ := strings.Cut(step[1:], ":")
			own[at+len(step)-1] = vars
		}
	}
	return own
}

// unsaidAt returns the variables whose values are destroyed unsaid at a byte, as they are declared.
func unsaidAt(p string, e expected, at int) string {
	switch p[at] {
	case '+', '=':
		return p[at+1 : at+2]
	case '^', '!':
		return e.around[at]
	}
	return ownAt(e)[at]
}

// planInState returns the plan for variables of which something is known.
func planInState(vars, state string) string {
	plan := ""
	for i := range vars {
		if state == "" {
			return ""
		}
		plan = map[byte]string{'0': "", '1': "-" + vars[i:i+1], '?': "~" + vars[i:i+1]}[state[vars[i]-'a']] + plan
	}
	return plan
}

// flagsIn returns the variables that stand behind a ~ in plans, or in steps ~v in whose states v is ?.
func flagsIn(plans string, e expected, states map[int]string) string {
	flags := ""
	for _, v := range strings.Split("abcdef", "") {
		kept := strings.Contains(plans, "~"+v)
		for at, step := range e.steps {
			kept = kept || step == "~"+v && states[at] != "" && states[at][v[0]-'a'] == '?'
		}
		if kept {
			flags += v
		}
	}
	return flags
}

// checkPlan holds PlanAt against what is expected at a byte.
func checkPlan(t *testing.T, p string, at int, plan string, reached bool) {
	t.Helper()
	if got, ok := impl.PlanAt(p, at); got != plan || ok != reached {
		t.Errorf("PlanAt(%.90q, %d) = %q, %v, not %q, %v", p, at, got, ok, plan, reached)
	}
}

// planned is what the functions that take a program alone return of one.
type planned struct {
	points []int
	text   string
	flags  string
}

// checkPlanned holds these functions against what is expected.
func checkPlanned(t *testing.T, p string, want planned) {
	t.Helper()
	if got, ok := impl.PlansOf(p); !slices.Equal(got, want.points) || !ok {
		t.Errorf("PlansOf(%q) = %v, %v, not %v", p, got, ok, want.points)
	}
	if got, ok := impl.FormatPlans(p); got != want.text || !ok {
		t.Errorf("FormatPlans(%q) = %q, %v, not %q", p, got, ok, want.text)
	}
	if got, ok := impl.FlagsOf(p); got != want.flags || !ok {
		t.Errorf("FlagsOf(%q) = %q, %v, not %q", p, got, ok, want.flags)
	}
	if got := impl.IsWritten(p); got != (want.text == "-") {
		t.Errorf("IsWritten(%q) = %v", p, got)
	}
	sure, maybe := strings.Count(strings.TrimPrefix(want.text, "-"), "-"), strings.Count(want.text, "~")
	if one, two, ok := impl.CountPlanned(p); one != sure || two != maybe || !ok {
		t.Errorf("CountPlanned(%q) = %d, %d, %v, not %d, %d", p, one, two, ok, sure, maybe)
	}
}

// checkChapter5 holds all functions of chapter 5 against what is expected of a text.
func checkChapter5(t *testing.T, p string) {
	t.Helper()
	e := expectedOf(p)
	if !e.valid {
		checkNoPlans(t, p)
		return
	}
	states, points := statesOf(p, e)
	var want planned
	var texts []string
	for at := -2; at <= len(p)+2; at++ {
		if !slices.Contains(points, at) {
			checkPlan(t, p, at, "", false)
			continue
		}
		plan := planInState(unsaidAt(p, e, at), states[at])
		checkPlan(t, p, at, plan, states[at] != "")
		if plan != "" {
			want.points = append(want.points, at)
			texts = append(texts, strconv.Itoa(at)+plan)
		}
	}
	want.text = strings.Join(texts, " ")
	want.flags = flagsIn(want.text, e, states)
	if want.text == "" {
		want.text = "-"
	}
	checkPlanned(t, p, want)
}

// checkNoPlans tells all that the chapter says of a text that is no program.
func checkNoPlans(t *testing.T, p string) {
	t.Helper()
	for at := -2; at <= min(len(p), 85)+2; at++ {
		checkPlan(t, p, at, "", false)
	}
	points, one := impl.PlansOf(p)
	text, two := impl.FormatPlans(p)
	flags, three := impl.FlagsOf(p)
	sure, maybe, four := impl.CountPlanned(p)
	if len(points) != 0 || one || text != "" || two || flags != "" || three || sure != 0 || maybe != 0 || four || impl.IsWritten(p) {
		t.Errorf("%.90q: %v, %v, %q, %v, %q, %v, %d, %d, %v, %v", p, points, one, text, two, flags, three, sure, maybe, four, impl.IsWritten(p))
	}
}

// A doer does what the plans of a program and its steps say where a run comes by, and destroys nothing unsaid.
type doer struct {
	t      *testing.T
	p      string
	e      expected
	held   map[string]int
	made   int
	events []string
}

func (d *doer) tell(kind string, value int) {
	d.events = append(d.events, kind+strconv.Itoa(value))
}

func (d *doer) destroy(v string) {
	if value := d.held[v]; value > 0 {
		d.tell("-", value)
		delete(d.held, v)
	}
}

// plan does the plan of a point, whose values must be there if it says so.
func (d *doer) plan(at int) {
	d.t.Helper()
	plan, ok := impl.PlanAt(d.p, at)
	if !ok || len(plan)%2 != 0 {
		d.t.Errorf("PlanAt(%q, %d) = %q, %v, but a run comes by", d.p, at, plan, ok)
		return
	}
	for i := 0; i < len(plan); i += 2 {
		v := plan[i+1 : i+2]
		if plan[i] == '-' && d.held[v] == 0 {
			d.t.Errorf("PlanAt(%q, %d) = %q, but %s holds no value in a run", d.p, at, plan, v)
		}
		d.destroy(v)
	}
}

// noneLeft tells whether some variables hold values still, which nothing would destroy.
func (d *doer) noneLeft(at int, vars string) {
	d.t.Helper()
	for _, v := range strings.Split(vars, "") {
		if d.held[v] > 0 {
			d.t.Errorf("%q: the plan at %d leaves the value of %s", d.p, at, v)
		}
	}
}

// step does the step or the end of a scope at a point.
func (d *doer) step(at int) {
	d.t.Helper()
	d.noneLeft(at, unsaidAt(d.p, d.e, at))
	step := d.e.steps[at]
	if need := needOfText(step); need != "" && d.held[need] == 0 {
		return
	}
	switch d.p[at] {
	case '+':
		d.made++
		d.held[step[1:]] = d.made
		d.tell("+", d.made)
	case '=':
		d.held[step[1:2]] = d.held[step[2:]]
		delete(d.held, step[2:])
	case '.':
		d.tell(".", d.held[step[1:]])
	case '-', '~':
		d.destroy(step[1:])
	}
}

// checkRunByPlans tells whether a run destroys what is said and what the plans say, in this order, and nothing else.
func checkRunByPlans(t *testing.T, p, choices string) {
	t.Helper()
	visits, ok := impl.VisitsOf(p, choices)
	if !ok {
		return
	}
	d := &doer{t: t, p: p, e: expectedOf(p), held: map[string]int{}}
	for _, v := range visits {
		d.plan(v.At)
		d.step(v.At)
	}
	events := strings.Join(d.events, " ")
	if events == "" {
		events = "-"
	}
	if want, _ := impl.EventsOf(p, choices); events != want {
		t.Errorf("%q, %q: what is said and planned does %q, but the run %q", p, choices, events, want)
	}
}
