package tests

import (
	"fmt"
	"math/rand"
	"regexp"
	"slices"
	"strconv"
	"strings"
	"testing"

	"loop.example/endsoflife/impl"
)

// The functions of this file tell by other means than the program what chapter 12 says of a script: lines are told by
// patterns, one after another, and what they tell of a program is printed as it is and then put into shape.

// firstProgram is what an interpreter has at first.
const firstProgram = "{a:}"

// wordsAlone and wordsWithRest are the words of the table, program being in both.
const (
	wordsAlone    = "write tidy drop simplify program steps vars events exit points dead show plans flags lives early left cells stack reuses room exits shared unused nested orders kinds sizes"
	wordsWithRest = "program order run at scope count runs may must fault plan out same other cleanup"
	wordsOfBytes  = "at scope may must fault plan out cleanup"
)

var (
	lineAlone    = regexp.MustCompile(`\A(?:` + strings.ReplaceAll(wordsAlone, " ", "|") + `)\z`)
	lineWithRest = regexp.MustCompile(`(?s)\A(` + strings.ReplaceAll(wordsWithRest, " ", "|") + `) (.*)\z`)
	shortNumber  = regexp.MustCompile(`\A(?:0|-?[1-9][0-9]{0,16})\z`)
)

// A table is what an interpreter has.
type table struct {
	p, c string
}

// inShape returns what is printed for anything in the way of chapter 12: without brackets and - if it is nothing.
func inShape(printed ...any) string {
	text := strings.TrimSuffix(fmt.Sprintln(printed...), "\n")
	if text = strings.Trim(text, "[]"); text == "" {
		return "-"
	}
	return text
}

// textOr returns a text, - if it is empty, and no if there is none.
func textOr(text string, ok bool) string {
	switch {
	case !ok:
		return "no"
	case text == "":
		return "-"
	}
	return text
}

// numbersOr does the same with a list of numbers.
func numbersOr(list []int, ok bool) string { return textOr(inShape(list), ok) }

// runsOr does the same with a list of choices.
func runsOr(list []string, ok bool) string {
	text := ""
	for _, choices := range list {
		text += " :" + choices
	}
	return textOr(strings.TrimPrefix(text, " "), ok)
}

func livesOr(list []impl.Life, ok bool) string {
	text := strings.NewReplacer("} {", " ", " ", "/", "{", "", "}", "").Replace(inShape(list))
	return textOr(text, ok)
}

// becomes puts a program and no choices onto the table, unless there is none.
func (b *table) becomes(p string, ok bool) string {
	if ok {
		*b = table{p: p}
	}
	return textOr(p, ok)
}

// does returns what is put out for a line, and does it.
func (b *table) does(line string) string {
	if m := lineWithRest.FindStringSubmatch(line); m != nil {
		return b.doesWithRest(m[1], m[2])
	}
	if !lineAlone.MatchString(line) {
		return "what"
	}
	switch line {
	case "write":
		return b.becomes(impl.WriteOut(b.p))
	case "tidy":
		return b.becomes(impl.TidyFlags(b.p))
	case "drop":
		return b.becomes(impl.DropDead(b.p))
	case "simplify":
		return b.becomes(impl.Simplify(b.p))
	case "events", "exit", "lives", "early", "left", "cells", "stack", "reuses", "room":
		return b.tellsOfRun(line)
	}
	return b.tells(line)
}

// tells returns what is put out for a line that tells of the program.
func (b *table) tells(line string) string {
	p := b.p
	switch line {
	case "program":
		return p
	case "steps":
		return numbersOr(impl.StepsOf(p))
	case "vars":
		return textOr(impl.VarsOf(p))
	case "points":
		return numbersOr(impl.PointsOf(p))
	case "dead":
		return numbersOr(impl.DeadSteps(p))
	case "show":
		choices, ok := impl.ShowFault(p)
		return runsOr([]string{choices}, ok)
	case "plans":
		return textOr(impl.FormatPlans(p))
	case "flags":
		return textOr(impl.FlagsOf(p))
	case "exits":
		return numbersOr(impl.ExitsOf(p))
	case "shared":
		return textOr(impl.SharedText(p))
	case "unused":
		return textOr(impl.UnusedVars(p))
	case "nested":
		return textOr(impl.NestedOrder(p))
	case "orders":
		list, ok := impl.SameOrders(p)
		return textOr(inShape(list), ok)
	case "kinds":
		return inShape(impl.IsSafe(p), impl.IsBroken(p), impl.IsWritten(p), impl.IsStraight(p), impl.CanEnd(p), impl.IsSimple(p), impl.IsNested(p), impl.OrderMatters(p))
	}
	return inShape(impl.DepthOf(p), impl.LengthOut(p), impl.CountAlone(p), impl.CountShared(p), impl.CountRounds(p), impl.MostInRuns(p))
}

// tellsOfRun returns what is put out for a line that tells of the run with the choices.
func (b *table) tellsOfRun(line string) string {
	if !impl.ChoicesRight(b.p, b.c) {
		return "no"
	}
	events, _ := impl.EventsOf(b.p, b.c)
	switch line {
	case "events":
		return events
	case "exit":
		return inShape(impl.NameOfExit(impl.ExitOf(b.p, b.c)), impl.FaultAt(b.p, b.c))
	}
	if events != "-" && len(strings.Fields(events)) > 600 {
		return "no"
	}
	switch line {
	case "lives":
		return livesOr(impl.LivesOf(events))
	case "early":
		return textOr(impl.EarlyEvents(events))
	case "left":
		return numbersOr(impl.LeftOver(events))
	case "cells":
		return numbersOr(impl.CellsFor(events))
	case "stack":
		return numbersOr(impl.StackCells(events))
	case "reuses":
		return numbersOr(impl.ReusesOf(events))
	}
	return inShape(impl.MostAlive(events), impl.IdleOf(events), impl.CountCells(events), impl.CountStack(events))
}

func (b *table) doesWithRest(word, rest string) string {
	switch word {
	case "program":
		return b.becomes(rest, impl.ProgramValid(rest))
	case "order":
		return b.becomes(impl.WithOrder(b.p, rest))
	case "run":
		if impl.ChoicesRight(b.p, rest) {
			b.c = rest
		}
		return textOr(impl.EventsOf(b.p, rest))
	case "count":
		return textOr(inShape(impl.CountSteps(b.p, rest)), len(rest) == 1 && strings.Contains(kindBytes, rest))
	case "same":
		return textOr(inShape(impl.SameEvents(b.p, rest)), impl.ProgramValid(rest))
	case "other":
		choices, ok := impl.FirstOther(b.p, rest)
		return runsOr([]string{choices}, ok)
	}
	if !shortNumber.MatchString(rest) {
		return "no"
	}
	k, _ := strconv.Atoi(rest)
	switch word {
	case "at":
		return textOr(impl.StepAt(b.p, k))
	case "scope":
		return textOr(impl.InScope(b.p, k))
	case "runs":
		return runsOr(impl.AllChoices(b.p, k))
	case "may":
		return textOr(impl.MayHold(b.p, k))
	case "must":
		return textOr(impl.MustHold(b.p, k))
	case "fault":
		return textOr(impl.NameOfFault(impl.FaultOf(b.p, k)), impl.FaultOf(b.p, k) != -1)
	case "plan":
		return textOr(impl.PlanAt(b.p, k))
	case "out":
		return textOr(impl.WriteStep(b.p, k))
	}
	return textOr(impl.CleanupOf(b.p, k))
}

// outputOf returns the output of a script.
func outputOf(text string) string {
	if len(text) > 20000 {
		return "long\n"
	}
	b := &table{p: firstProgram}
	output := ""
	for i, line := range strings.Split(text, "\n") {
		switch {
		case line == "":
		case i >= 100 || len(output) > 40000:
			return output + "full\n"
		default:
			output += b.does(line) + "\n"
		}
	}
	return output
}

// checkScript holds RunScript against what is expected of a script.
func checkScript(t *testing.T, text, output string) {
	t.Helper()
	if got := impl.RunScript(text); got != output {
		t.Errorf("RunScript(%.300q) of %d bytes = %.300q of %d bytes, not %.300q of %d", text, len(text), got, len(got), output, len(output))
	}
}

// checkChapter12 holds RunScript against what this file tells of a script.
func checkChapter12(t *testing.T, text string) {
	t.Helper()
	checkScript(t, text, outputOf(text))
}

// pick returns one of some words at random.
func pick(random *rand.Rand, words string) string {
	list := strings.Fields(words)
	return list[random.Intn(len(list))]
}

// A scripter writes scripts at random, and knows what the interpreter has.
type scripter struct {
	random   *rand.Rand
	programs []string
	table    table
}

func (w *scripter) program() string { return w.programs[w.random.Intn(len(w.programs))] }

// byteOfProgram returns the number of a byte of the program, or one next to it.
func (w *scripter) byteOfProgram() string {
	if points, _ := impl.PointsOf(w.table.p); w.random.Intn(3) > 0 {
		return strconv.Itoa(points[w.random.Intn(len(points))])
	}
	return strconv.Itoa(w.random.Intn(len(w.table.p)+4) - 2)
}

// rest returns what may stand behind a word.
func (w *scripter) rest(word string) string {
	switch word {
	case "program", "same", "other":
		switch w.random.Intn(8) {
		case 0:
			return noPrograms[w.random.Intn(len(noPrograms))]
		case 1, 2:
			return w.table.p
		case 3:
			p, _ := impl.WriteOut(w.table.p)
			return p
		}
		return w.program()
	case "order":
		letters := strings.Split(declaredBy(w.table.p), "")
		w.random.Shuffle(len(letters), func(i, j int) { letters[i], letters[j] = letters[j], letters[i] })
		return strings.Join(letters, "")
	case "run":
		return choicesAtRandom(w.random, w.table.p)
	case "count":
		return string((kindBytes + "a}")[w.random.Intn(len(kindBytes)+2)])
	case "runs":
		return strconv.Itoa(w.random.Intn(9) - 1)
	}
	return w.byteOfProgram()
}

// line returns a line, most of them lines of the table.
func (w *scripter) line() string {
	switch n := w.random.Intn(40); {
	case n == 0:
		return ""
	case n == 1:
		return pick(w.random, wordsAlone+" foo")
	case n == 2:
		return pick(w.random, wordsWithRest+" foo") + " " + pick(w.random, "x 00 -0 +1 l ba {a:} 12345678901234567 123456789012345678")
	case n < 12:
		return pick(w.random, "events exit lives early left cells stack reuses room")
	case n < 16:
		return "run " + w.rest("run")
	case n < 18:
		return "program " + w.rest("program")
	case n < 28:
		return pick(w.random, wordsAlone)
	}
	word := pick(w.random, wordsWithRest)
	return word + " " + w.rest(word)
}

func (w *scripter) script(count int) string {
	w.table = table{p: firstProgram}
	var lines []string
	for range count {
		line := w.line()
		if line != "" {
			w.table.does(line)
		}
		lines = append(lines, line)
	}
	return strings.Join(lines, "\n")
}

// scriptsAtRandom returns scripts at random of up to a number of lines.
func scriptsAtRandom(t *testing.T, seed int64, count, most int) []string {
	t.Helper()
	random := rand.New(rand.NewSource(seed))
	list := slices.Concat(randomPrograms(t, seed+1, 60), programsToOrder(t, seed+2, 60, 4), programsWithExits(t, seed+3, 30), programsToSimplify(t, seed+4, 30), programs)
	w := &scripter{random: random, programs: list}
	var scripts []string
	for range count {
		scripts = append(scripts, w.script(1+random.Intn(most)))
	}
	return scripts
}
