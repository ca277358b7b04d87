package tests

import (
	"math/rand"
	"slices"
	"strconv"
	"strings"
	"testing"

	"loop.example/endsoflife/impl"
)

// The functions of this file tell by other means than the program what chapter 9 says of a text: cleanups are told of
// what the solver of chapter 3 knows, tails are cut from their texts, and ends are compared step by step.

// cleaned is what chapter 9 says of a program.
type cleaned struct {
	exits    []int
	cleanups []string
	tails    []string
	text     string
}

// stepsOfCleanup returns the steps of a cleanup.
func stepsOfCleanup(cleanup string) []string {
	var steps []string
	for i := 0; i < len(cleanup); i += 2 {
		steps = append(steps, cleanup[i:i+2])
	}
	return steps
}

// tailsOfCleanups returns what is left of cleanups, those of one length at a time.
func tailsOfCleanups(cleanups []string) []string {
	var tails []string
	for count := 1; count <= 6; count++ {
		var alike []string
		for _, cleanup := range cleanups {
			if steps := stepsOfCleanup(cleanup); len(steps) >= count {
				alike = append(alike, strings.Join(steps[len(steps)-count:], ""))
			}
		}
		slices.Sort(alike)
		tails = append(tails, slices.Compact(alike)...)
	}
	return tails
}

// textOfTails tells for each tail its first step and where it goes on.
func textOfTails(tails []string) string {
	var words []string
	for _, tail := range tails {
		word := tail[:2]
		if rest := slices.Index(tails, tail[2:]); rest >= 0 {
			word += ">" + strconv.Itoa(rest)
		}
		words = append(words, word)
	}
	if len(words) == 0 {
		return "-"
	}
	return strings.Join(words, " ")
}

// commonEnd tells the steps with which two cleanups end, from the last one on.
func commonEnd(one, two string) string {
	steps, others := stepsOfCleanup(one), stepsOfCleanup(two)
	end := ""
	for len(steps) > 0 && len(others) > 0 && steps[len(steps)-1] == others[len(others)-1] {
		end = steps[len(steps)-1] + end
		steps, others = steps[:len(steps)-1], others[:len(others)-1]
	}
	return end
}

func cleanedOf(p string, e expected) cleaned {
	states, _ := statesOf(p, e)
	var c cleaned
	for _, at := range e.starts {
		if (p[at] == '^' || p[at] == '!') && states[at] != "" {
			c.exits = append(c.exits, at)
			c.cleanups = append(c.cleanups, planInState(e.around[at], states[at]))
		}
	}
	c.tails = tailsOfCleanups(c.cleanups)
	c.text = textOfTails(c.tails)
	return c
}

// cleanupAt returns the cleanup of the exit at a byte; ok is false if none begins there.
func (c cleaned) cleanupAt(at int) (cleanup string, ok bool) {
	i := slices.Index(c.exits, at)
	if i < 0 {
		return "", false
	}
	return c.cleanups[i], true
}

// checkCommon holds CommonTail against what is expected of two bytes, and the other way round.
func checkCommon(t *testing.T, p string, a, b int, end string, areExits bool) {
	t.Helper()
	if got, ok := impl.CommonTail(p, a, b); got != end || ok != areExits {
		t.Errorf("CommonTail(%.90q, %d, %d) = %q, %v, not %q, %v", p, a, b, got, ok, end, areExits)
	}
	if got, ok := impl.CommonTail(p, b, a); got != end || ok != areExits {
		t.Errorf("CommonTail(%.90q, %d, %d) = %q, %v, not %q, %v", p, b, a, got, ok, end, areExits)
	}
}

// checkExitAt holds the functions that take a byte against what is expected there.
func checkExitAt(t *testing.T, p string, c cleaned, at int) {
	t.Helper()
	cleanup, isExit := c.cleanupAt(at)
	if got, ok := impl.CleanupOf(p, at); got != cleanup || ok != isExit {
		t.Errorf("CleanupOf(%.90q, %d) = %q, %v, not %q, %v", p, at, got, ok, cleanup, isExit)
	}
	// No tail is the empty text.
	if got, entry := impl.EntryOf(p, at), slices.Index(c.tails, cleanup); got != entry {
		t.Errorf("EntryOf(%.90q, %d) = %d, not %d", p, at, got, entry)
	}
	checkCommon(t, p, at, at, cleanup, isExit)
	for i, exit := range c.exits {
		checkCommon(t, p, at, exit, commonEnd(cleanup, c.cleanups[i]), isExit)
		if !isExit {
			break
		}
	}
}

// checkCleaned holds the functions that take a program alone against what is expected of it.
func checkCleaned(t *testing.T, p string, c cleaned) {
	t.Helper()
	if got, ok := impl.ExitsOf(p); !slices.Equal(got, c.exits) || !ok {
		t.Errorf("ExitsOf(%q) = %v, %v, not %v", p, got, ok, c.exits)
	}
	if got, ok := impl.TailsOf(p); !slices.Equal(got, c.tails) || !ok {
		t.Errorf("TailsOf(%q) = %q, %v, not %q", p, got, ok, c.tails)
	}
	if got, ok := impl.SharedText(p); got != c.text || !ok {
		t.Errorf("SharedText(%q) = %q, %v, not %q", p, got, ok, c.text)
	}
	if got, alone := impl.CountAlone(p), len(strings.Join(c.cleanups, ""))/2; got != alone {
		t.Errorf("CountAlone(%q) = %d, not %d", p, got, alone)
	}
	if got := impl.CountShared(p); got != len(c.tails) {
		t.Errorf("CountShared(%q) = %d, not %d", p, got, len(c.tails))
	}
}

// checkChapter9 holds all functions of chapter 9 against what is expected of a text.
func checkChapter9(t *testing.T, p string) {
	t.Helper()
	e := expectedOf(p)
	if !e.valid {
		checkNoCleaning(t, p)
		return
	}
	c := cleanedOf(p, e)
	checkCleaned(t, p, c)
	for at := -2; at <= len(p)+2; at++ {
		checkExitAt(t, p, c, at)
	}
	checkPromise9(t, p)
}

// checkNoCleaning tells all that the chapter says of a text that is no program.
func checkNoCleaning(t *testing.T, p string) {
	t.Helper()
	exits, one := impl.ExitsOf(p)
	tails, two := impl.TailsOf(p)
	text, three := impl.SharedText(p)
	if len(exits) != 0 || one || len(tails) != 0 || two || text != "" || three {
		t.Errorf("%.90q: %v, %v, %q, %v, %q, %v", p, exits, one, tails, two, text, three)
	}
	if impl.CountAlone(p) != -1 || impl.CountShared(p) != -1 {
		t.Errorf("%.90q: %d, %d", p, impl.CountAlone(p), impl.CountShared(p))
	}
	for at := -2; at <= min(len(p), 85)+2; at++ {
		checkExitAt(t, p, cleaned{}, at)
		checkCommon(t, p, at, 3, "", false)
	}
}

// followed does the shared steps from one on, each of which tells where it goes on.
func followed(words []string, entry int) string {
	steps := ""
	for entry >= 0 && entry < len(words) {
		step, next, goesOn := strings.Cut(words[entry], ">")
		steps += step
		if !goesOn {
			return steps
		}
		// What a step goes on with is shorter, so it is ahead of it.
		last := entry
		if entry, _ = strconv.Atoi(next); entry >= last {
			return steps + "?"
		}
	}
	return steps
}

// checkPromise9 tells what promise 9 says of a program: from the entry of each exit, the shared steps are its cleanup,
// none of them is left out on all these ways, and they are no more than those of cleanups alone.
func checkPromise9(t *testing.T, p string) {
	t.Helper()
	text, _ := impl.SharedText(p)
	words := strings.Fields(strings.TrimPrefix(text+" ", "- "))
	exits, _ := impl.ExitsOf(p)
	ends := map[string]bool{}
	for _, at := range exits {
		cleanup, _ := impl.CleanupOf(p, at)
		if steps := followed(words, impl.EntryOf(p, at)); steps != cleanup {
			t.Errorf("%q, %d: %q done of %q, not %q", p, at, steps, text, cleanup)
		}
		for i := 0; i < len(cleanup); i += 2 {
			ends[cleanup[i:]] = true
		}
	}
	if len(words) != len(ends) || impl.CountShared(p) != len(words) || impl.CountAlone(p) < len(words) {
		t.Errorf("%q: %q for %d ends, %d of %d", p, text, len(ends), impl.CountShared(p), impl.CountAlone(p))
	}
}

// checkRunCleansUp tells whether a run that leaves a program does so with one of its exits, and no other run comes by
// any, and whether the cleanup there destroys the values that are held, and of those that must be no others.
func checkRunCleansUp(t *testing.T, p, choices string) {
	t.Helper()
	visits, ok := impl.VisitsOf(p, choices)
	if !ok {
		return
	}
	exit := impl.ExitOf(p, choices)
	leaves := exit == impl.ExitReturn || exit == impl.ExitFail
	for i, v := range visits {
		cleanup, isExit := impl.CleanupOf(p, v.At)
		if isExit != (leaves && i == len(visits)-1) {
			t.Errorf("CleanupOf(%q, %d) = %q, %v, but %q comes by", p, v.At, cleanup, isExit, choices)
		}
		if !isExit {
			continue
		}
		held := 0
		for _, step := range stepsOfCleanup(cleanup) {
			if strings.Contains(v.Holds, step[1:]) {
				held++
			} else if step[0] == '-' {
				t.Errorf("CleanupOf(%q, %d) = %q, but with %q %q are held", p, v.At, cleanup, choices, v.Holds)
			}
		}
		events, _ := impl.EventsOf(p, choices)
		words := strings.Fields(events)
		destroyed := 0
		for destroyed < len(words) && words[len(words)-1-destroyed][0] == '-' {
			destroyed++
		}
		if held != len(v.Holds) || destroyed < held {
			t.Errorf("CleanupOf(%q, %d) = %q, but with %q %q are held, and %q happens", p, v.At, cleanup, choices, v.Holds, events)
		}
	}
}

// withExits puts values and branches with exits into a program, at places that vary, as many as fit.
func withExits(random *rand.Rand, p string) string {
	for range 12 {
		starts, _ := impl.StepsOf(p)
		// Ahead of a step within the outermost scope, or at its end.
		at := append(starts[1:], len(p)-1)[random.Intn(len(starts))]
		around, isStep := impl.InScope(p, at)
		if !isStep {
			around, _, _ = strings.Cut(p[1:], ":")
		}
		text := []string{"?[^][]", "?[][!]", "?[!][]", "?[][^]"}[random.Intn(4)]
		if i := random.Intn(2 * len(around)); i < len(around) {
			text = "+" + around[i:i+1]
		}
		if len(p)+len(text) <= 80 {
			p = p[:at] + text + p[at:]
		}
	}
	return p
}

// programsWithExits returns programs at random, most of them with several exits.
func programsWithExits(t *testing.T, seed int64, count int) []string {
	t.Helper()
	return changedPrograms(t, seed, count, withExits)
}
