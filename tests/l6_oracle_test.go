package tests

import (
	"math/rand"
	"slices"
	"strings"
	"testing"

	"loop.example/endsoflife/impl"
)

// The functions of this file tell by other means than the program what chapter 6 says of texts: plans are put into the
// text byte by byte, of what the solver of chapter 3 knows, and runs are compared by the walker of chapter 2.

// putInto returns a part of a program with its steps ~v told by what is known, and with plans at its points if there are to be any.
func putInto(p string, e expected, states map[int]string, from, to int, withPlans bool) string {
	text := ""
	for at := from; at < to; at++ {
		state, isPoint := states[at]
		switch {
		case isPoint && p[at] == '~' && state != "":
			text += planInState(p[at+1:at+2], state)
			at++
			continue
		case isPoint && withPlans:
			text += planInState(unsaidAt(p, e, at), state)
		}
		text += p[at : at+1]
	}
	return text
}

// firstOther tells FirstOther by going through the beginnings of runs of both programs, those of one length at a time.
func firstOther(p, q string) (string, bool) {
	if !expectedOf(p).valid || !expectedOf(q).valid {
		return "", false
	}
	begun, begunByOther := []string{""}, []string{""}
	for range 7 {
		for _, choices := range slices.Concat(rightOnes(p, begun), rightOnes(q, begunByOther)) {
			one, two := walkedOf(p, choices), walkedOf(q, choices)
			if one.right != two.right || one.events != two.events || one.exit != two.exit {
				return choices, true
			}
		}
		begun, begunByOther = longerOnes(p, begun), longerOnes(q, begunByOther)
	}
	return "", false
}

func rightOnes(p string, begun []string) []string {
	var list []string
	for _, choices := range begun {
		if walkedOf(p, choices).right {
			list = append(list, choices)
		}
	}
	return list
}

// longerOnes returns the choices with which runs of a program go on that begin with some choices, one choice longer.
func longerOnes(p string, begun []string) []string {
	var list []string
	for _, choices := range begun {
		for _, choice := range askedBy(p, choices) {
			list = append(list, choices+string(choice))
		}
	}
	return list
}

// checkStepOut holds WriteStep against what is expected at a byte.
func checkStepOut(t *testing.T, p string, at int, text string, begins bool) {
	t.Helper()
	if got, ok := impl.WriteStep(p, at); got != text || ok != begins {
		t.Errorf("WriteStep(%.90q, %d) = %q, %v, not %q, %v", p, at, got, ok, text, begins)
	}
}

// checkOut holds the functions that take a program alone against what it is written out and tidied up, however long.
func checkOut(t *testing.T, p, out, tidy string) {
	t.Helper()
	if got := impl.LengthOut(p); got != len(out) {
		t.Errorf("LengthOut(%q) = %d, not %d", p, got, len(out))
	}
	if got, ok := impl.TidyFlags(p); got != tidy || !ok {
		t.Errorf("TidyFlags(%q) = %q, %v, not %q", p, got, ok, tidy)
	}
	fits := len(out) <= 80
	if !fits {
		out = ""
	}
	if got, ok := impl.WriteOut(p); got != out || ok != fits {
		t.Errorf("WriteOut(%q) = %q, %v, not %q, %v", p, got, ok, out, fits)
	}
}

// checkChapter6 holds all functions of chapter 6 that take one text against what is expected of it.
func checkChapter6(t *testing.T, p string) {
	t.Helper()
	e := expectedOf(p)
	if !e.valid {
		checkNothingWritten(t, p)
		return
	}
	states, _ := statesOf(p, e)
	for at := -2; at <= len(p)+2; at++ {
		step, begins := e.steps[at]
		checkStepOut(t, p, at, putInto(p, e, states, at, at+len(step), true), begins)
	}
	checkOut(t, p, putInto(p, e, states, 0, len(p), true), putInto(p, e, states, 0, len(p), false))
}

// checkNothingWritten tells all that the chapter says of a text that is no program.
func checkNothingWritten(t *testing.T, p string) {
	t.Helper()
	for at := -2; at <= min(len(p), 85)+2; at++ {
		checkStepOut(t, p, at, "", false)
	}
	out, one := impl.WriteOut(p)
	tidy, two := impl.TidyFlags(p)
	if out != "" || one || tidy != "" || two || impl.LengthOut(p) != -1 {
		t.Errorf("%.90q: %q, %v, %q, %v, %d", p, out, one, tidy, two, impl.LengthOut(p))
	}
	checkFirst(t, p, p, "", false)
	checkFirst(t, p, "{a:}", "", false)
	checkFirst(t, "{a:}", p, "", false)
}

// checkFirst holds FirstOther against what is expected of two texts, and SameEvents, if both are programs.
func checkFirst(t *testing.T, p, q, choices string, differ bool) {
	t.Helper()
	if got, ok := impl.FirstOther(p, q); got != choices || ok != differ {
		t.Errorf("FirstOther(%.90q, %.90q) = %q, %v, not %q, %v", p, q, got, ok, choices, differ)
	}
	same := !differ && expectedOf(p).valid && expectedOf(q).valid
	if got := impl.SameEvents(p, q); got != same {
		t.Errorf("SameEvents(%.90q, %.90q) = %v", p, q, got)
	}
}

// checkPair holds FirstOther and SameEvents against what the walker tells of two programs, and the other way round.
func checkPair(t *testing.T, p, q string) {
	t.Helper()
	choices, differ := firstOther(p, q)
	checkFirst(t, p, q, choices, differ)
	choices, differ = firstOther(q, p)
	checkFirst(t, q, p, choices, differ)
}

// checkSaid tells whether no run of a program comes by a value that it would destroy unsaid.
func checkSaid(t *testing.T, p, choices string) {
	t.Helper()
	e := expectedOf(p)
	visits, ok := impl.VisitsOf(p, choices)
	for _, v := range visits {
		if unsaid := unsaidAt(p, e, v.At); strings.ContainsAny(v.Holds, unsaid) {
			t.Errorf("VisitsOf(%q, %q): %q destroyed unsaid at %d", p, choices, v.Holds, v.At)
		}
	}
	if !ok {
		t.Errorf("VisitsOf(%q, %q) = %v, %v", p, choices, visits, ok)
	}
}

// checkRunOfBoth tells whether a run has the same events and exit in a program and in what has become of it.
func checkRunOfBoth(t *testing.T, p, q, choices string) {
	t.Helper()
	events, ok := impl.EventsOf(p, choices)
	other, okOfOther := impl.EventsOf(q, choices)
	if events != other || ok != okOfOther || impl.ExitOf(p, choices) != impl.ExitOf(q, choices) {
		t.Errorf("%q, %q: %q, %v, but %q, %v in %q", p, choices, events, ok, other, okOfOther, q)
	}
}

// checkWrittenOut tells what is promised of a program and of what it is written out and tidied up.
func checkWrittenOut(t *testing.T, random *rand.Rand, p string) {
	t.Helper()
	tidy, _ := impl.TidyFlags(p)
	list := []string{tidy}
	if out, ok := impl.WriteOut(p); ok {
		list = append(list, out)
		if again, ok := impl.WriteOut(out); again != out || !ok || !impl.IsWritten(out) || impl.LengthOut(out) != len(out) {
			t.Errorf("WriteOut(%q) = %q, %v", out, again, ok)
		}
	}
	for _, q := range list {
		if again, ok := impl.TidyFlags(q); again != q || !ok || !impl.SameEvents(p, q) || !impl.SameEvents(q, p) {
			t.Errorf("TidyFlags(%q) = %q, %v, from %q", q, again, ok, p)
		}
		for range 3 {
			checkRunOfBoth(t, p, q, choicesAtRandom(random, p))
		}
	}
}
