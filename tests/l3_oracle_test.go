package tests

import (
	"slices"
	"strings"
	"testing"

	"loop.example/endsoflife/impl"
)

// The functions of this file tell by other means than the program what chapter 3 says of a program:
// its bytes are joined by ways on which a run may go from one to the next, and what is known spreads
// on all of them until nothing changes. What is known at a byte is a text of six, one for each variable:
// 0 if it may not hold a value, 1 if it must, and ? if it may but need not. It is empty if no run comes by.

// A way leads from a byte to another one. The step, if any, is done on it; } and variables is the end of a scope.
// The byte -1-b is where a run decides whether it goes through the loop at b once more.
type way struct {
	from, to int
	step     string
}

func waysThrough(p string, e expected) []way {
	var list []way
	for _, at := range e.starts {
		step := e.steps[at]
		end := at + len(step)
		switch step[0] {
		case '^', '!':
		case '?':
			left := lengthOfPair(step[1:], '[', ']')
			list = append(list, way{at, at + 2, ""}, way{at + left, end, ""}, way{at, at + left + 2, ""}, way{end - 1, end, ""})
		case '*':
			list = append(list, way{at, -1 - at, ""}, way{-1 - at, at + 2, ""}, way{end - 1, -1 - at, ""}, way{-1 - at, end, ""})
		case '{':
			own, _, _ := strings.Cut(step[1:], ":")
			list = append(list, way{at, at + 2 + len(own), ""}, way{end - 1, end, "}" + own})
		default:
			list = append(list, way{at, end, step})
		}
	}
	return list
}

// behindStep tells what is known behind a step of what is known ahead of it.
func behindStep(state, step string) string {
	if state == "" || step == "" {
		return state
	}
	held := []byte(state)
	of := func(i int) *byte { return &held[step[i]-'a'] }
	switch last := len(step) - 1; step[0] {
	case '+':
		*of(1) = '1'
	case '.', '-', '=':
		if *of(last) == '0' {
			return ""
		}
		*of(last) = '0'
		if step[0] != '-' {
			*of(1) = '1'
		}
	default:
		for i := 1; i <= last; i++ {
			*of(i) = '0'
		}
	}
	return string(held)
}

func fromBoth(one, two string) string {
	if one == "" || two == "" {
		return one + two
	}
	both := []byte(one)
	for i := range both {
		if one[i] != two[i] {
			both[i] = '?'
		}
	}
	return string(both)
}

// statesOf returns what is known at each point of a program, and the points in ascending order.
func statesOf(p string, e expected) (map[int]string, []int) {
	spread := map[int]string{0: "000000"}
	for changes := true; changes; {
		changes = false
		for _, w := range waysThrough(p, e) {
			state := fromBoth(spread[w.to], behindStep(spread[w.from], w.step))
			changes = changes || state != spread[w.to]
			spread[w.to] = state
		}
	}
	states := map[int]string{}
	var points []int
	for at := range p {
		if strings.IndexByte(kindBytes+"}", p[at]) >= 0 {
			states[at] = spread[at]
			points = append(points, at)
		}
	}
	return states, points
}

// varsWith returns the variables of which one of some bytes is known.
func varsWith(state, bytes string) string {
	vars := ""
	for i := range state {
		if strings.IndexByte(bytes, state[i]) >= 0 {
			vars += "abcdef"[i : i+1]
		}
	}
	return vars
}

// checkPoint holds the functions that are given a byte against what is known there; nothing if it is no point.
func checkPoint(t *testing.T, p string, at int, state string) {
	t.Helper()
	reached := state != ""
	if got := impl.IsReached(p, at); got != reached {
		t.Errorf("IsReached(%q, %d) = %v", p, at, got)
	}
	if got, ok := impl.MayHold(p, at); got != varsWith(state, "1?") || ok != reached {
		t.Errorf("MayHold(%q, %d) = %q, %v, not %q", p, at, got, ok, varsWith(state, "1?"))
	}
	if got, ok := impl.MustHold(p, at); got != varsWith(state, "1") || ok != reached {
		t.Errorf("MustHold(%q, %d) = %q, %v, not %q", p, at, got, ok, varsWith(state, "1"))
	}
	if got, ok := impl.UnsureAt(p, at); got != varsWith(state, "?") || ok != reached {
		t.Errorf("UnsureAt(%q, %d) = %q, %v, not %q", p, at, got, ok, varsWith(state, "?"))
	}
}

// checkChapter3 holds all functions of chapter 3 against what is expected of a text.
func checkChapter3(t *testing.T, p string) {
	t.Helper()
	e := expectedOf(p)
	if !e.valid {
		checkNothingKnown(t, p)
		return
	}
	states, points := statesOf(p, e)
	if got, ok := impl.PointsOf(p); !slices.Equal(got, points) || !ok {
		t.Errorf("PointsOf(%q) = %v, %v, not %v", p, got, ok, points)
	}
	var dead []int
	for _, at := range e.starts {
		if states[at] == "" {
			dead = append(dead, at)
		}
	}
	if got, ok := impl.DeadSteps(p); !slices.Equal(got, dead) || !ok {
		t.Errorf("DeadSteps(%q) = %v, %v, not %v", p, got, ok, dead)
	}
	if got := impl.CanEnd(p); got != (states[len(p)-1] != "") {
		t.Errorf("CanEnd(%q) = %v", p, got)
	}
	for at := -2; at <= len(p)+2; at++ {
		checkPoint(t, p, at, states[at])
	}
}

// checkNothingKnown tells all that the chapter says of a text that is no program.
func checkNothingKnown(t *testing.T, p string) {
	t.Helper()
	points, one := impl.PointsOf(p)
	dead, two := impl.DeadSteps(p)
	if len(points) != 0 || one || len(dead) != 0 || two || impl.CanEnd(p) {
		t.Errorf("%.90q: %v, %v, %v, %v, %v", p, points, one, dead, two, impl.CanEnd(p))
	}
	for at := -2; at <= min(len(p), 85)+2; at++ {
		checkPoint(t, p, at, "")
	}
}
