package tests

import (
	"math/rand"
	"slices"
	"strconv"
	"strings"
	"testing"
	"unsafe"

	"loop.example/endsoflife/impl"
)

// The example of chapter 12 and what it produces.
const (
	exampleScript = `program {ab:+a?[=ba][].b}
kinds
vars
steps
points
flags
plans
fault 14
show
run l
exit
lives
run r
exit
left
may 14
must 14
write
same {ab:+a?[=ba][].b}
other {ab:+a?[][].b}
runs 1
program {ab:+b+a}
nested
orders
events
early
room
cells
order ba
events
program {ab:+a?[^][]+b?[!][]}
exits
cleanup 16
shared
sizes
plan 8
out 6
at 6
scope 8
count +
run rl
exit
program {abc:+b{d:~b}.c}
dead
unused
tidy
simplify
drop
foo
`
	exampleOutput = `{ab:+a?[=ba][].b}
false false false false true true true false
ab
0 4 6 8 14
0 4 6 8 14 16
a
16-b~a
maybe
:r
+1 .1 -1
end -1
0/1/2
+1
fault 14
1
ab
-
{ab:+a?[=ba][].b-b~a}
true
:l
:l :r
{ab:+b+a}
ba
ab
+1 +2 -1 -2
+1 -1 +2 -2
2 2 2 2
0 1
{ba:+b+a}
+1 +2 -2 -1
{ab:+a?[^][]+b?[!][]}
8 16
-b-a
-a -b>0
1 31 3 2 0 2
-a
?[-a^][]
?[^][]
ab
2
+1 +2 -2 -1
fail -1
{abc:+b{d:~b}.c}
-
ad
{abc:+b{d:-b}.c}
{bc:+b-b.c}
{bc:+b-b.c}
what
`
)

// Programs that the tests of this file have more than once.
const (
	moved   = "{ab:+a?[=ba][].b}"
	leaving = "{ab:+a?[^][]+b?[!][]}"
	chosen  = "{a:?[+a][]}"
	scoped  = "{ca:{fb:+b}{bf:=bc}}"
)

// tellings are programs, choices, lines behind these, and what is put out for the line.
var tellings = []struct{ p, choices, line, out string }{
	{"{a:}", "", "program", "{a:}"}, {moved, "", "program", moved}, {moved, "r", "program", moved},

	// Chapter 1.
	{"{a:}", "", "steps", "0"}, {moved, "", "steps", "0 4 6 8 14"}, {"{a:{b:}^}", "", "steps", "0 3 7"},
	{"{a:}", "", "vars", "a"}, {scoped, "", "vars", "abcf"}, {"{fedcba:}", "", "vars", "abcdef"},
	{moved, "", "at 0", moved}, {moved, "", "at 4", "+a"}, {moved, "", "at 6", "?[=ba][]"}, {moved, "", "at 14", ".b"}, {moved, "", "at 5", "no"}, {moved, "", "at 16", "no"}, {moved, "", "at 17", "no"}, {moved, "", "at -1", "no"},
	{scoped, "", "scope 0", "-"}, {scoped, "", "scope 4", "ca"}, {scoped, "", "scope 8", "cafb"}, {scoped, "", "scope 15", "cabf"}, {scoped, "", "scope 10", "no"}, {scoped, "", "scope 1", "no"},
	{moved, "", "count +", "1"}, {moved, "", "count {", "1"}, {moved, "", "count *", "0"}, {moved, "", "count =", "1"}, {"{a:-a-a~a^!}", "", "count -", "2"},
	{moved, "", "count a", "no"}, {moved, "", "count ", "no"}, {moved, "", "count  ", "no"}, {moved, "", "count ++", "no"}, {moved, "", "count + ", "no"}, {moved, "", "count }", "no"}, {moved, "", "count :", "no"},

	// Chapter 2, with lists of the empty choices and with empty lists.
	{"{a:}", "", "runs 0", ":"}, {"{a:}", "", "runs 6", ":"}, {"{a:.a?[][]}", "", "runs 3", ":"}, {"{a:?[][]}", "", "runs 0", "-"}, {"{a:?[][]}", "", "runs 1", ":l :r"}, {"{a:*[]}", "", "runs 0", "-"}, {"{a:*[]}", "", "runs 3", ":e :me :mme"},
	{"{a:?[?[][]][]}", "", "runs 2", ":r :ll :lr"}, {"{a:}", "", "runs 7", "no"}, {"{a:}", "", "runs -1", "no"}, {"{a:" + branches(7) + "}", "", "runs 6", "-"},
	{"{a:}", "", "run ", "-"}, {"{a:+a}", "", "run ", "+1 -1"}, {chosen, "", "run l", "+1 -1"}, {chosen, "", "run r", "-"}, {chosen, "", "run ", "no"}, {chosen, "", "run ll", "no"}, {chosen, "", "run x", "no"}, {chosen, "", "run l ", "no"}, {chosen, "", "run  l", "no"}, {chosen, "", "run -", "no"},
	{"{a:}", "", "events", "-"}, {"{ab:+a+b.a}", "", "events", "+1 +2 .1 -2 -1"}, {chosen, "l", "events", "+1 -1"}, {chosen, "r", "events", "-"}, {chosen, "", "events", "no"},
	{"{a:}", "", "exit", "end -1"}, {"{a:^}", "", "exit", "return -1"}, {"{a:!}", "", "exit", "fail -1"}, {"{a:.a}", "", "exit", "fault 3"}, {"{a:+a*[-a]}", "mm", "exit", "fault 7"}, {"{a:?[^][!]}", "l", "exit", "return -1"}, {"{a:?[^][!]}", "r", "exit", "fail -1"}, {moved, "l", "exit", "end -1"}, {moved, "", "exit", "no"}, {"{a:*[]}", "", "exit", "no"},

	// Chapter 3.
	{"{a:}", "", "points", "0 3"}, {"{a:{b:}}", "", "points", "0 3 6 7"}, {moved, "", "points", "0 4 6 8 14 16"},
	{"{a:}", "", "dead", "-"}, {"{a:^+a}", "", "dead", "4"}, {"{a:.a+a.a}", "", "dead", "5 7"},
	{moved, "", "may 14", "ab"}, {moved, "", "must 14", "-"}, {moved, "", "may 16", "ab"}, {moved, "", "must 16", "b"}, {moved, "", "may 0", "-"}, {moved, "", "must 0", "-"}, {moved, "", "must 6", "a"}, {moved, "", "may 5", "no"}, {moved, "", "must 5", "no"},
	{"{a:^+a}", "", "may 4", "no"}, {"{a:^+a}", "", "must 4", "no"}, {"{a:^+a}", "", "must 6", "no"},

	// Chapter 4.
	{moved, "", "fault 0", "none"}, {moved, "", "fault 8", "none"}, {moved, "", "fault 14", "maybe"}, {"{a:.a}", "", "fault 3", "always"}, {"{a:^.a}", "", "fault 4", "dead"}, {moved, "", "fault 5", "no"}, {moved, "", "fault 16", "no"}, {moved, "", "fault -1", "no"},
	{moved, "", "show", ":r"}, {"{a:.a}", "", "show", ":"}, {"{a:*[.a]}", "", "show", ":m"}, {"{a:}", "", "show", "no"}, {"{a:+a.a}", "", "show", "no"},

	// Chapter 5.
	{moved, "", "plan 16", "-b~a"}, {moved, "", "plan 14", "-"}, {moved, "", "plan 0", "-"}, {moved, "", "plan 5", "no"}, {"{a:^+a}", "", "plan 4", "no"}, {leaving, "", "plan 8", "-a"},
	{"{a:}", "", "plans", "-"}, {moved, "", "plans", "16-b~a"}, {"{a:+a+a}", "", "plans", "5-a 7-a"},
	{"{a:+a}", "", "flags", "-"}, {moved, "", "flags", "a"}, {"{ba:?[+b][]?[+a][]}", "", "flags", "ab"},

	// Chapter 6.
	{leaving, "", "out 6", "?[-a^][]"}, {leaving, "", "out 8", "-a^"}, {"{a:~a}", "", "out 3", "-"}, {"{a:+a~a}", "", "out 5", "-a"}, {"{a:+a}", "", "out 0", "{a:+a-a}"}, {"{a:+a}", "", "out 5", "no"}, {"{a:+a}", "", "out 1", "no"},
	{"{a:+a}", "", "same {a:+a-a}", "true"}, {"{a:+a}", "", "same {a:+a}", "true"}, {"{a:+a}", "", "same {a:}", "false"}, {"{a:+a}", "", "same x", "no"}, {"{a:+a}", "", "same ", "no"}, {"{a:+a}", "", "same  {a:+a}", "no"}, {"{a:+a}", "", "same {a:+a} ", "no"},
	{"{a:+a}", "", "other {a:}", ":"}, {chosen, "", "other {a:?[][]}", ":l"}, {chosen, "", "other {a:}", ":"}, {"{a:*[]}", "", "other {a:*[+a]}", ":me"}, {"{a:+a}", "", "other {a:+a-a}", "no"}, {"{a:+a}", "", "other {a:+a}", "no"}, {"{a:+a}", "", "other x", "no"}, {"{a:+a}", "", "other ", "no"},

	// Chapter 7.
	{"{a:}", "", "lives", "-"}, {"{ab:+a+b.a}", "", "lives", "0/2/4 1/1/3"}, {"{ab:+a+b-b.b}", "", "lives", "0/0/-1 1/1/2"}, {chosen, "l", "lives", "0/0/1"}, {chosen, "r", "lives", "-"}, {chosen, "", "lives", "no"},
	{"{a:}", "", "early", "-"}, {"{ab:+a+b.a}", "", "early", "+1 +2 -2 .1 -1"}, {"{ab:+a+b-b.b}", "", "early", "+1 +2 -2"}, {chosen, "", "early", "no"},
	{"{a:}", "", "left", "-"}, {"{a:+a}", "", "left", "-"}, {"{abc:+a+b+c-b.b}", "", "left", "1 3"}, {moved, "r", "left", "1"}, {moved, "", "left", "no"},

	// Chapter 8: the events are +1 +2 -1 +3 -2 -3.
	{"{abc:+a+b-a+a-b}", "", "cells", "0 1 0"}, {"{abc:+a+b-a+a-b}", "", "stack", "0 1 2"}, {"{abc:+a+b-a+a-b}", "", "reuses", "3"}, {"{abc:+a+b-a+a-b}", "", "room", "2 4 2 3"},
	{"{a:}", "", "cells", "-"}, {"{a:}", "", "stack", "-"}, {"{a:}", "", "reuses", "-"}, {"{a:}", "", "room", "0 0 0 0"}, {"{a:+a}", "", "reuses", "-"}, {moved, "r", "room", "1 0 1 1"},
	{chosen, "", "cells", "no"}, {chosen, "", "stack", "no"}, {chosen, "", "reuses", "no"}, {chosen, "", "room", "no"},

	// Chapter 9.
	{leaving, "", "exits", "8 16"}, {"{a:}", "", "exits", "-"}, {"{a:^!}", "", "exits", "3"}, {leaving, "", "cleanup 8", "-a"}, {leaving, "", "cleanup 16", "-b-a"}, {"{a:^}", "", "cleanup 3", "-"}, {leaving, "", "cleanup 6", "no"}, {leaving, "", "cleanup 20", "no"}, {"{a:^!}", "", "cleanup 4", "no"},
	{leaving, "", "shared", "-a -b>0"}, {"{a:}", "", "shared", "-"}, {"{a:^}", "", "shared", "-"},

	// Chapters 10 and 11.
	{"{ab:+b{c:+b^}.b}", "", "unused", "ac"}, {"{a:+a}", "", "unused", "-"},
	{"{a:}", "", "nested", "a"}, {"{ab:+b+a}", "", "nested", "ba"}, {"{ab:+a+b-a-b}", "", "nested", "no"}, {"{abcde:}", "", "nested", "no"}, {"{abcd:}", "", "nested", "abcd"},
	{"{a:}", "", "orders", "a"}, {"{ab:}", "", "orders", "ab ba"}, {"{ab:+b+a}", "", "orders", "ab"}, {"{abc:+b+c}", "", "orders", "abc bac bca"}, {"{abcde:}", "", "orders", "no"},

	// Safe, broken, written, straight, with an end that is reached, simple, nested, and with orders that matter.
	{"{a:}", "", "kinds", "true false true true true true true false"}, {"{a:.a}", "", "kinds", "false true true true false true true false"}, {"{ab:+b+a}", "", "kinds", "true false false true true true false true"},
	{"{ab:*[~a]}", "", "kinds", "true false true false true false true false"}, {"{abcde:}", "", "kinds", "true false true true true false true false"}, {moved, "", "kinds", "false false false false true true true false"}, {"{ab:+a+b^}", "", "kinds", "true false false true false true true true"},

	// Depth, length written out, steps of cleanups alone and shared, rounds, and values at once.
	{"{a:}", "", "sizes", "1 4 0 0 0 0"}, {"{a:+a{b:+b^}}", "", "sizes", "2 17 2 2 0 2"}, {leaving, "", "sizes", "1 31 3 2 0 2"}, {"{ab:^+a}", "", "sizes", "1 8 0 0 1 0"}, {"{a:" + strings.Repeat("+a", 38) + "}", "", "sizes", "1 156 0 0 0 1"},
}

// tellAll writes a script in which a program and its choices are ahead of lines.
func tellAll(p, choices string, lines ...string) string {
	ahead := []string{"program " + p}
	if choices != "" {
		ahead = append(ahead, "run "+choices)
	}
	return strings.Join(append(ahead, lines...), "\n")
}

func TestExampleOfTheDesk(t *testing.T) {
	checkScript(t, exampleScript, exampleOutput)
	checkScript(t, strings.TrimSuffix(exampleScript, "\n"), exampleOutput)
	checkChapter12(t, exampleScript)
}

func TestLinesThatTell(t *testing.T) {
	for _, c := range tellings {
		text := tellAll(c.p, c.choices)
		ahead := impl.RunScript(text)
		if strings.Contains(ahead, "no\n") {
			t.Errorf("RunScript(%q) = %q", text, ahead)
		}
		checkScript(t, text+"\n"+c.line, ahead+c.out+"\n")
		checkChapter12(t, text+"\n"+c.line)
		checkNothingChanges(t, c.p, c.choices, c.line)
	}
}

// checkNothingChanges tells that a line changes neither the program nor the choices; run changes the choices.
func checkNothingChanges(t *testing.T, p, choices, line string) {
	t.Helper()
	if strings.HasPrefix(line, "run ") && impl.ChoicesRight(p, line[4:]) {
		return
	}
	text := tellAll(p, choices)
	then := impl.RunScript(text + "\nprogram\nevents\nexit")[len(impl.RunScript(text)):]
	checkScript(t, text+"\n"+line+"\nprogram\nevents\nexit", impl.RunScript(text+"\n"+line)+then)
}

// TestWordsThatAreTold tells whether there is a telling or a becoming for each line of the table.
func TestWordsThatAreTold(t *testing.T) {
	alone, withRest := map[string]bool{}, map[string]bool{}
	note := func(line string) {
		word, _, hasRest := strings.Cut(line, " ")
		if hasRest {
			withRest[word] = true
		} else {
			alone[word] = true
		}
	}
	for _, c := range tellings {
		note(c.line)
	}
	for _, c := range becomings {
		note(c.line)
	}
	for _, word := range strings.Fields(wordsAlone) {
		if !alone[word] {
			t.Errorf("no line %q", word)
		}
	}
	for _, word := range strings.Fields(wordsWithRest) {
		if !withRest[word] {
			t.Errorf("no line %q with a rest", word)
		}
	}
}

// becomings are programs, lines by which they become something, and what they become; no if nothing changes.
var becomings = []struct{ p, line, out string }{
	{"{a:}", "program {b:+b}", "{b:+b}"}, {moved, "program {a:}", "{a:}"}, {moved, "program " + moved, moved}, {"{a:}", "program {a:" + strings.Repeat("^", 76) + "}", "{a:" + strings.Repeat("^", 76) + "}"},
	{"{a:+a}", "program {a:" + strings.Repeat("^", 77) + "}", "no"}, {"{a:+a}", "program x", "no"}, {"{a:+a}", "program ", "no"}, {"{a:+a}", "program  ", "no"}, {"{a:+a}", "program  {a:}", "no"}, {"{a:+a}", "program {a:} ", "no"}, {"{a:+a}", "program {a:}\r", "no"}, {"{a:+a}", "program {a :}", "no"}, {"{a:+a}", "program {a:{a:}}", "no"},
	{chosen, "program x", "no"}, {chosen, "program {b:?[+b][]}", "{b:?[+b][]}"},

	{"{ab:+b+a}", "order ba", "{ba:+b+a}"}, {"{ab:+b+a}", "order ab", "{ab:+b+a}"}, {"{a:}", "order a", "{a:}"}, {"{abcde:+a}", "order edcba", "{edcba:+a}"}, {"{ab:?[+a][]}", "order ba", "{ba:?[+a][]}"}, {chosen, "order a", chosen},
	{"{ab:+b+a}", "order ", "no"}, {"{ab:+b+a}", "order a", "no"}, {"{ab:+b+a}", "order aa", "no"}, {"{ab:+b+a}", "order abc", "no"}, {"{ab:+b+a}", "order ba ", "no"}, {"{ab:+b+a}", "order  ba", "no"}, {"{ab:+b+a}", "order BA", "no"}, {chosen, "order b", "no"}, {chosen, "order ", "no"},

	{"{a:}", "write", "{a:}"}, {"{a:+a}", "write", "{a:+a-a}"}, {moved, "write", "{ab:+a?[=ba][].b-b~a}"}, {chosen, "write", "{a:?[+a][]~a}"}, {"{a:?[+a][]~a}", "write", "{a:?[+a][]~a}"},
	{"{a:" + strings.Repeat("+a", 19) + "}", "write", "{a:+a" + strings.Repeat("-a+a", 18) + "-a}"}, {"{a:" + strings.Repeat("+a", 19) + "^}", "write", "no"},
	{"{a:" + strings.Repeat("+a", 20) + "}", "write", "no"}, {"{a:?[+a][]" + strings.Repeat("+a", 30) + "}", "write", "no"},

	{"{a:~a}", "tidy", "{a:}"}, {"{a:+a~a}", "tidy", "{a:+a-a}"}, {chosen, "tidy", chosen}, {"{a:?[+a][]~a~a}", "tidy", "{a:?[+a][]~a}"},
	{"{a:^+a}", "drop", "{a:^}"}, {"{a:+a}", "drop", "{a:+a}"}, {chosen, "drop", chosen}, {"{a:?[+a^.a][]}", "drop", "{a:?[+a^][]}"},
	{"{ab:+b{c:+b^}.b}", "simplify", "{b:+b+b^}"}, {"{a:}", "simplify", "{a:}"}, {chosen, "simplify", chosen}, {"{ab:?[+a][]}", "simplify", "{a:?[+a][]}"}, {"{ab:~a~b^+a}", "simplify", "{a:^}"},
}

// TestLinesByWhichProgramsBecomeSomething tells what is there behind them: no choices, unless the output is no.
func TestLinesByWhichProgramsBecomeSomething(t *testing.T) {
	for _, c := range becomings {
		all, _ := impl.AllChoices(c.p, 6)
		for _, choices := range all {
			text := tellAll(c.p, choices, c.line)
			ahead := impl.RunScript(tellAll(c.p, choices))
			p, left := c.out, ""
			if c.out == "no" {
				p, left = c.p, choices
			}
			checkScript(t, text+"\nprogram", ahead+c.out+"\n"+p+"\n")
			events, ok := impl.EventsOf(p, left)
			checkScript(t, text+"\nevents", ahead+c.out+"\n"+textOr(events, ok)+"\n")
			checkChapter12(t, text+"\nevents\nexit\nlives\nroom\nprogram")
		}
	}
}

// TestChoicesOfAnotherProgram has choices that would be right for what a program becomes, but are no longer there.
func TestChoicesOfAnotherProgram(t *testing.T) {
	for _, c := range []struct{ script, output string }{
		{"program {a:?[+a][]}\nrun l\nprogram {a:?[][+a]}\nevents\nexit\nlives\nroom\nrun r\nevents", "{a:?[+a][]}\n+1 -1\n{a:?[][+a]}\nno\nno\nno\nno\n+1 -1\n+1 -1\n"},
		{"program {a:?[+a][]}\nrun l\nprogram {a:?[+a][]}\nevents", "{a:?[+a][]}\n+1 -1\n{a:?[+a][]}\nno\n"},
		{"program {a:?[+a][]}\nrun l\nprogram {a:+a}\nevents\nexit", "{a:?[+a][]}\n+1 -1\n{a:+a}\n+1 -1\nend -1\n"},
		{"program {a:?[+a][]}\nrun l\norder a\nevents", "{a:?[+a][]}\n+1 -1\n{a:?[+a][]}\nno\n"},
		{"program {a:?[+a][]~a}\nrun l\nwrite\nevents", "{a:?[+a][]~a}\n+1 -1\n{a:?[+a][]~a}\nno\n"},
		{"program {a:?[+a][]~a}\nrun l\ntidy\nevents", "{a:?[+a][]~a}\n+1 -1\n{a:?[+a][]~a}\nno\n"},
		{"program {a:?[+a][]}\nrun l\ndrop\nlives", "{a:?[+a][]}\n+1 -1\n{a:?[+a][]}\nno\n"},
		{"program {a:?[+a][]}\nrun l\nsimplify\nexit", "{a:?[+a][]}\n+1 -1\n{a:?[+a][]}\nno\n"},
		// Lines whose output is no, and others by which nothing becomes anything.
		{"program {a:?[+a][]}\nrun l\nprogram {a:?[+b][]}\nevents", "{a:?[+a][]}\n+1 -1\nno\n+1 -1\n"},
		{"program {a:?[+a][]}\nrun l\norder b\nevents", "{a:?[+a][]}\n+1 -1\nno\n+1 -1\n"},
		{"program {a:?[+a][]}\nrun l\nrun lr\nevents\nrun \nexit\nrun r\nevents", "{a:?[+a][]}\n+1 -1\nno\n+1 -1\nno\nend -1\n-\n-\n"},
		{"program {a:?[+a][]}\nrun l\nprogram\nsame {a:}\nother {a:}\nruns 2\nfoo\nwrite x\norder\n\nevents", "{a:?[+a][]}\n+1 -1\n{a:?[+a][]}\nfalse\n:\n:l :r\nwhat\nwhat\nwhat\n+1 -1\n"},
		// What was chosen ahead does not come back with the program.
		{"program {a:?[+a][]}\nrun l\nprogram {a:}\nprogram {a:?[+a][]}\nevents", "{a:?[+a][]}\n+1 -1\n{a:}\n{a:?[+a][]}\nno\n"},
		{"run \nevents\nexit", "-\n-\nend -1\n"}, {"run l\nevents", "no\n-\n"},
	} {
		checkScript(t, c.script, c.output)
		checkChapter12(t, c.script)
	}
	program := "{a:?[+a][]" + strings.Repeat("+a", 30) + "}"
	events, _ := impl.EventsOf(program, "r")
	checkScript(t, tellAll(program, "r", "write", "events"), program+"\n"+events+"\nno\n"+events+"\n")
}

// TestRunsWithTooManyEvents has a run with as many events as chapter 7 takes, and one with one more.
func TestRunsWithTooManyEvents(t *testing.T) {
	choices := strings.Repeat("m", 10) + "e"
	p, more := "{a:*["+strings.Repeat("+a", 30)+"]}", "{a:*["+strings.Repeat("+a", 30)+"].a}"
	for _, line := range strings.Fields("lives early left cells stack reuses room") {
		for program, count := range map[string]int{p: 600, more: 601} {
			events, _ := impl.EventsOf(program, choices)
			if got := len(strings.Fields(events)); got != count {
				t.Errorf("EventsOf(%q) has %d events", program, got)
			}
			got := impl.RunScript(tellAll(program, choices, line))
			if ahead := program + "\n" + events + "\n"; (got == ahead+"no\n") != (count > 600) || !strings.HasPrefix(got, ahead) {
				t.Errorf("%s of %d events: %.200q", line, count, got[len(ahead):])
			}
			checkChapter12(t, tellAll(program, choices, line))
		}
	}
	// Lines of chapter 2 tell of them all the same, and the choices stay.
	events, _ := impl.EventsOf(more, choices)
	checkScript(t, tellAll(more, choices, "room", "events", "exit", "lives"), more+"\n"+events+"\nno\n"+events+"\nend -1\nno\n")
	checkScript(t, tellAll(p, choices, "room", "left"), p+"\n"+impl.RunScript(tellAll(p, choices))[len(p)+1:]+"1 0 1 1\n-\n")
}

func isWord(list, word string) bool { return slices.Contains(strings.Fields(list), word) }

func TestLinesThatAreUnknown(t *testing.T) {
	lines := []string{" ", "  ", "   ", "\t", "\r", "x", "foo", "foo 1", "what", "no", "full", "-", ":", "{a:}", "0", " program", " steps", "steps\r", "steps\t", "program\t{a:}", "run\t", "at\x000", "steps\x00", "\x00", "\xff", "\xe1 0", "stéps", "vars,", "ａt 0", "kinds sizes", "plans plans", "become {a:}"}
	for _, word := range strings.Fields(wordsAlone) {
		if word != "program" {
			lines = append(lines, word+" ", word+" 0", word+" a", word+" "+word, word+"  ")
		}
		lines = append(lines, " "+word, word+"\t", word+"\r", word+"-", strings.ToUpper(word), strings.ToUpper(word[:1])+word[1:], word+word)
	}
	for _, word := range strings.Fields(wordsWithRest) {
		if word != "program" {
			lines = append(lines, word)
		}
		lines = append(lines, " "+word+" 0", word+"\t0", word+":0", word+"0", strings.ToUpper(word)+" 0", word+word+" 0")
	}
	for _, word := range strings.Fields(wordsAlone + " " + wordsWithRest) {
		for i := 1; i < len(word); i++ {
			if !isWord(wordsAlone, word[:i]) {
				lines = append(lines, word[:i])
			}
			if !isWord(wordsWithRest, word[:i]) {
				lines = append(lines, word[:i]+" 0")
			}
		}
	}
	for _, line := range lines {
		checkScript(t, line, "what\n")
		checkScript(t, tellAll(chosen, "l", line, "events"), chosen+"\n+1 -1\nwhat\n+1 -1\n")
		checkNothingChanges(t, moved, "r", line)
	}
}

func TestAllBytesInLines(t *testing.T) {
	for b := range 256 {
		text := string([]byte{byte(b)})
		for _, line := range []string{text, "at" + text + "0", "at " + text + "0", "at 0" + text, "steps" + text, text + "steps", "st" + text + "ps", "count " + text, "run " + text, "order " + text, "order a" + text, "program " + text, "program {" + text + ":}", "program" + text + "{a:}", "runs " + text, "runs " + text + "1", "same {a:}" + text} {
			checkChapter12(t, line+"\nprogram\nevents")
		}
	}
}

// TestNumbersOfLines has numbers that are none, or too long, for each word that needs one.
func TestNumbersOfLines(t *testing.T) {
	// With a step at 3 and exits at 7 and 10, to which some of the texts would lead if they were read as numbers.
	p := "{a:+a?[^][^]?[^][^]}"
	numbers := []string{"", " ", "x", "-", "+", "--1", "00", "000", "01", "03", "010", "-0", "-00", "-03", "+0", "+3", "+10", " 0", "0 ", "0  ", "0\t", "0\r", "0\x00", "\x000", "3 ", "3x", "x3", "3.", "3.0", "3e0", "0x3", "0b11", "0o3", "0X3", "1_0", "_3", "3_", "3,", "3 5", "3\xff", "３", "٣", "½", "l", "a", "{a:}", "- 3", "-3 ", "١٠", "1 0", "(3)", "'3'",
		"000000000000000003", "0000000000000000000000003", "00000000000000003", "18446744073709551619", "36893488147419103235", "340282366920938463463374607431768211459"}
	for _, word := range append(strings.Fields(wordsOfBytes), "runs") {
		for _, number := range numbers {
			checkScript(t, tellAll(p, "l", word+" "+number, "program", "exit"), p+"\n+1 -1\nno\n"+p+"\nreturn -1\n")
			checkChapter12(t, tellAll(p, "l", word+" "+number))
		}
		for _, digits := range []int{2, 3, 9, 10, 16, 17, 18, 19, 20, 21, 100, 10000} {
			for _, number := range []string{strings.Repeat("9", digits), "1" + strings.Repeat("0", digits-1), "-" + strings.Repeat("9", digits)} {
				if number != "10" {
					checkScript(t, tellAll(p, "l", word+" "+number), p+"\n+1 -1\nno\n")
				}
			}
		}
	}
	for at := -2; at <= len(p)+2; at++ {
		for _, word := range append(strings.Fields(wordsOfBytes), "runs") {
			checkChapter12(t, tellAll(p, "l", word+" "+strconv.Itoa(at)))
		}
	}
}

func TestLengthOfScripts(t *testing.T) {
	if impl.MaxScript != 20000 || impl.MaxLines != 100 || impl.MaxOutput != 40000 {
		t.Error("limits")
	}
	for _, c := range []struct{ script, output string }{
		{"", ""}, {"\n", ""}, {strings.Repeat("\n", 19999), ""}, {strings.Repeat("\n", 20000), ""}, {strings.Repeat("\n", 20001), "long\n"},
		{strings.Repeat("x", 19999), "what\n"}, {strings.Repeat("x", 20000), "what\n"}, {strings.Repeat("x", 20001), "long\n"}, {strings.Repeat("x", 1<<22), "long\n"},
		{"program " + strings.Repeat("x", 19992), "no\n"}, {"program " + strings.Repeat("x", 19993), "long\n"}, {"vars\n" + strings.Repeat("\n", 19995), "a\n"}, {"vars\n" + strings.Repeat("\n", 19996), "long\n"},
		{"vars\nrun " + strings.Repeat("l", 19991), "a\nno\n"}, {"vars\nrun " + strings.Repeat("l", 19992), "long\n"}, {strings.Repeat("vars\n", 4000), strings.Repeat("a\n", 100) + "full\n"}, {strings.Repeat("vars\n", 4000) + "v", "long\n"},
		{strings.Repeat("\x00", 20000), "what\n"}, {strings.Repeat("\x00", 20001), "long\n"}, {strings.Repeat(" ", 20000), "what\n"}, {strings.Repeat("é", 10000), "what\n"}, {strings.Repeat("é", 10000) + "x", "long\n"},
	} {
		checkScript(t, c.script, c.output)
		checkChapter12(t, c.script)
	}
}

func TestLinesOfScripts(t *testing.T) {
	empty := func(count int) string { return strings.Repeat("\n", count) }
	for _, c := range []struct{ script, output string }{
		{"vars", "a\n"}, {"vars\n", "a\n"}, {"\nvars", "a\n"}, {"\n\nvars\n\n\nsteps\n\n", "a\n0\n"}, {"vars\r\nvars", "what\na\n"}, {"vars\x00vars", "what\n"},
		{strings.Repeat("vars\n", 99), strings.Repeat("a\n", 99)}, {strings.Repeat("vars\n", 100), strings.Repeat("a\n", 100)}, {strings.Repeat("vars\n", 99) + "vars", strings.Repeat("a\n", 100)},
		{strings.Repeat("vars\n", 101), strings.Repeat("a\n", 100) + "full\n"}, {strings.Repeat("vars\n", 100) + "vars", strings.Repeat("a\n", 100) + "full\n"}, {strings.Repeat("vars\n", 200), strings.Repeat("a\n", 100) + "full\n"},
		{strings.Repeat("vars\n", 100) + "foo", strings.Repeat("a\n", 100) + "full\n"}, {strings.Repeat("foo\n", 101), strings.Repeat("what\n", 100) + "full\n"}, {strings.Repeat("at 1\n", 101), strings.Repeat("no\n", 100) + "full\n"}, {strings.Repeat(" \n", 101), strings.Repeat("what\n", 100) + "full\n"},
		// Empty lines count ahead of other ones, but are never too many themselves.
		{empty(99) + "vars", "a\n"}, {empty(100) + "vars", "full\n"}, {empty(99) + "vars\nvars", "a\nfull\n"}, {empty(100) + "vars\nvars", "full\n"}, {empty(98) + "vars\nvars\n\n\n\n", "a\na\n"}, {empty(150) + "vars", "full\n"}, {empty(150), ""},
		{strings.Repeat("vars\n", 100) + empty(50), strings.Repeat("a\n", 100)}, {strings.Repeat("vars\n", 100) + empty(50) + "vars" + empty(50) + "vars", strings.Repeat("a\n", 100) + "full\n"},
		{"vars\n" + empty(98) + "vars\nvars", "a\na\nfull\n"}, {"vars\n" + empty(99) + "vars", "a\nfull\n"}, {strings.Repeat("\nvars\n", 60), strings.Repeat("a\n", 50) + "full\n"}, {strings.Repeat("\nvars", 60), strings.Repeat("a\n", 60)}, {strings.Repeat("vars\n\n", 50) + "vars", strings.Repeat("a\n", 50) + "full\n"},
	} {
		checkScript(t, c.script, c.output)
		checkChapter12(t, c.script)
	}
}

// longOutput writes a script whose output has so many bytes. Its last line puts out many of them, so that it is executed.
func longOutput(t *testing.T, size int) string {
	t.Helper()
	p := "{a:*[" + strings.Repeat("+a", 36) + "]}"
	lines := []string{"program " + p}
	size -= len(p) + 1
	for turns := 19; turns > 0; turns-- {
		choices := strings.Repeat("m", turns) + "e"
		events, _ := impl.EventsOf(p, choices)
		for size-len(events)-1 > 1 {
			lines = append(lines, "run "+choices)
			size -= len(events) + 1
		}
	}
	for _, line := range []struct {
		text string
		out  int
	}{{"program", len(p) + 1}, {"foo", 5}, {"dead", 2}} {
		for size-line.out > 1 || size == line.out {
			lines = append(lines, line.text)
			size -= line.out
		}
	}
	if size == 3 {
		lines = append(lines, "show")
		size = 0
	}
	if size != 0 || len(lines) > 90 {
		t.Fatalf("%d bytes left, %d lines", size, len(lines))
	}
	slices.Reverse(lines[1:])
	return strings.Join(lines, "\n")
}

func TestMuchOutput(t *testing.T) {
	for size := 39990; size <= 40010; size++ {
		text := longOutput(t, size)
		output := outputOf(text)
		if len(output) != size {
			t.Fatalf("output of %d bytes, not %d", len(output), size)
		}
		checkScript(t, text, output)
		checkScript(t, text+"\n\n\n", output)
		next := "full\n"
		if size <= 40000 {
			next = "a\n"
		}
		for _, more := range []string{"\nvars", "\n\n\nvars\n\n"} {
			checkScript(t, text+more, output+next)
		}
		if size > 40000 {
			checkScript(t, text+"\nvars\nfoo\nvars", output+"full\n")
			checkScript(t, text+"\nfoo", output+"full\n")
			checkScript(t, text+"\n ", output+"full\n")
		}
		checkChapter12(t, text+"\nvars\nvars\nvars\nvars\nvars\nvars\nvars\nvars")
	}
	// A line that is executed is put out as a whole.
	text := longOutput(t, 40000)
	events, _ := impl.EventsOf("{a:*["+strings.Repeat("+a", 36)+"]}", strings.Repeat("m", 19)+"e")
	checkScript(t, text+"\nrun "+strings.Repeat("m", 19)+"e\nvars", outputOf(text)+events+"\nfull\n")
}

func TestFormatNumbers(t *testing.T) {
	for _, c := range []struct {
		list []int
		text string
	}{
		{nil, "-"}, {[]int{}, "-"}, {make([]int, 0, 5), "-"}, {[]int{0}, "0"}, {[]int{-1}, "-1"}, {[]int{1, 0, -3}, "1 0 -3"}, {[]int{0, 0, 0}, "0 0 0"}, {[]int{10, 9, 10}, "10 9 10"}, {[]int{1 << 40, -1 << 40}, "1099511627776 -1099511627776"},
		{[]int{-1 << 63, 1<<63 - 1}, "-9223372036854775808 9223372036854775807"}, {[]int{7, 8, 9}[:1], "7"}, {make([]int, 5000), strings.TrimSuffix(strings.Repeat("0 ", 5000), " ")},
	} {
		before := slices.Clone(c.list[:cap(c.list)])
		if got := impl.FormatNumbers(c.list); got != c.text {
			t.Errorf("FormatNumbers(%.50v) = %.50q", c.list, got)
		}
		if !slices.Equal(before, c.list[:cap(c.list)]) {
			t.Errorf("FormatNumbers changes %v", before)
		}
	}
}

func TestFormatLives(t *testing.T) {
	for _, c := range []struct {
		list []impl.Life
		text string
	}{
		{nil, "-"}, {[]impl.Life{}, "-"}, {make([]impl.Life, 0, 5), "-"}, {[]impl.Life{{}}, "0/0/0"}, {make([]impl.Life, 3), "0/0/0 0/0/0 0/0/0"}, {[]impl.Life{{Born: 0, Used: 2, Died: -1}, {Born: 1, Used: 1, Died: 3}}, "0/2/-1 1/1/3"},
		{[]impl.Life{{Born: -1 << 63, Used: 1<<63 - 1, Died: -7}}, "-9223372036854775808/9223372036854775807/-7"}, {[]impl.Life{{Born: 10, Used: 20, Died: 30}, {Born: 3, Used: 2, Died: 1}}, "10/20/30 3/2/1"},
		{[]impl.Life{{Born: 1}, {Used: 2}, {Died: 3}}[:2], "1/0/0 0/2/0"},
	} {
		before := slices.Clone(c.list[:cap(c.list)])
		if got := impl.FormatLives(c.list); got != c.text || livesOr(c.list, true) != c.text {
			t.Errorf("FormatLives(%v) = %q, not %q, %q", c.list, got, c.text, livesOr(c.list, true))
		}
		if !slices.Equal(before, c.list[:cap(c.list)]) {
			t.Errorf("FormatLives changes %v", before)
		}
	}
}

// TestScriptsOfOtherChapters has what the tables of the other chapters tell by hand.
func TestScriptsOfOtherChapters(t *testing.T) {
	words := []string{"", "end", "return", "fail", "fault"}
	for _, c := range runs {
		checkScript(t, tellAll(c.p, "", "run "+c.choices, "events", "exit"), c.p+"\n"+c.events+"\n"+c.events+"\n"+words[c.exit]+" "+strconv.Itoa(c.fault)+"\n")
	}
	for _, c := range orderings {
		checkScript(t, tellAll(c.p, "", "orders", "nested"), c.p+"\n"+c.same+"\n"+textOr(c.order, c.order != "")+"\n")
	}
	for _, c := range simplerPrograms {
		checkScript(t, tellAll(c.p, "", "unused", "drop", "simplify"), c.p+"\n"+textOr(c.unused, true)+"\n"+filled(c.dead, c.p)+"\n"+filled(c.simple, c.p)+"\n")
	}
}

func TestTextsThatAreNoProgramsInScripts(t *testing.T) {
	for _, p := range noPrograms {
		for _, word := range []string{"program", "same", "other"} {
			checkChapter12(t, tellAll(moved, "r", word+" "+p, "program", "events"))
			if !strings.Contains(p, "\n") {
				checkScript(t, word+" "+p+"\nprogram", "no\n{a:}\n")
			}
		}
	}
	for _, p := range programs {
		for _, text := range textsNextTo(p, "^", "+a", " ", "\n") {
			checkChapter12(t, "program "+text+"\nprogram\nsteps\nevents")
		}
	}
}

func TestTextsThatAreNoOrdersInScripts(t *testing.T) {
	for _, p := range []string{"{ab:+b+a}", "{cab:?[+a][]}", "{a:}"} {
		for _, vars := range noOrders(declaredBy(p)) {
			checkScript(t, tellAll(p, "", "order "+vars, "program"), p+"\nno\n"+p+"\n")
		}
	}
}

func TestScriptsAtRandom(t *testing.T) {
	for _, text := range scriptsAtRandom(t, 121, 500, 60) {
		checkChapter12(t, text)
	}
	for _, text := range scriptsAtRandom(t, 131, 20, 160) {
		checkChapter12(t, text)
	}
}

// TestScriptsNextToOthers leaves out, replaces and puts in bytes of scripts.
func TestScriptsNextToOthers(t *testing.T) {
	for _, text := range []string{"program {ab:+b+a}\nevents\norder ba\nevents\nwrite\n", "program " + chosen + "\nrun l\nlives\nruns 1\nat 10\n", "program " + leaving + "\ncleanup 16\nplan 8\nfault 8\ncount ^\n"} {
		for _, other := range textsNextTo(text, " ", "\n", "0", "x", "\x00") {
			checkChapter12(t, other)
		}
	}
}

// TestScriptsAreToldAgain tells that a script leaves nothing behind for the next one.
func TestScriptsAreToldAgain(t *testing.T) {
	random := rand.New(rand.NewSource(141))
	scripts := append(scriptsAtRandom(t, 142, 30, 30), exampleScript, "program", "events", tellAll(chosen, "l"), "exit")
	outputs := map[string]string{}
	for _, text := range scripts {
		outputs[text] = impl.RunScript(text)
	}
	for range 3 {
		random.Shuffle(len(scripts), func(i, j int) { scripts[i], scripts[j] = scripts[j], scripts[i] })
		for _, text := range scripts {
			checkScript(t, text, outputs[text])
		}
	}
}

func TestOutputsShareNoMemory(t *testing.T) {
	for _, text := range []string{"program {a:+a}", "program {a:}\nprogram", "run ", "foo", exampleScript} {
		got := impl.RunScript(text)
		at := uintptr(unsafe.Pointer(unsafe.StringData(got)))
		from := uintptr(unsafe.Pointer(unsafe.StringData(text)))
		if at >= from && at < from+uintptr(len(text)) {
			t.Errorf("%q shares the memory of %q", got, text)
		}
	}
}
