package tests

import (
	"math/rand"
	"slices"
	"strings"
	"testing"

	"loop.example/endsoflife/impl"
)

// runs are programs, choices of them, events and where each ends.
var runs = []struct {
	p, choices, events string
	exit, fault        int
}{
	{"{a:}", "", "-", impl.ExitEnd, -1},
	{"{ab:+a+b.a}", "", "+1 +2 .1 -2 -1", impl.ExitEnd, -1},
	{"{a:+a.a.a-a}", "", "+1 .1 .1 -1", impl.ExitEnd, -1},
	{"{abc:+b+c+a}", "", "+1 +2 +3 -2 -1 -3", impl.ExitEnd, -1},
	{"{cab:+b+c+a}", "", "+1 +2 +3 -1 -3 -2", impl.ExitEnd, -1},

	// A value is destroyed because another one comes, ahead of that.
	{"{a:+a+a+a}", "", "+1 -1 +2 -2 +3 -3", impl.ExitEnd, -1},
	{"{ab:+a+b=ab}", "", "+1 +2 -1 -2", impl.ExitEnd, -1},
	{"{ab:+a+b=ab.a=ba.b+b}", "", "+1 +2 -1 .2 .2 -2 +3 -3", impl.ExitEnd, -1},
	{"{ab:+a=ba+a}", "", "+1 +2 -1 -2", impl.ExitEnd, -1},
	{"{ab:+b=ba}", "", "+1 -1", impl.ExitFault, 6},
	{"{a:*[+a]}", "mmme", "+1 -1 +2 -2 +3 -3", impl.ExitEnd, -1},
	{"{ab:*[+b=ab]}", "mme", "+1 +2 -1 -2", impl.ExitEnd, -1},

	// A value that has moved is not destroyed where it was.
	{"{ab:+a=ba-b+a}", "", "+1 -1 +2 -2", impl.ExitEnd, -1},
	{"{ab:+a=ba~a~b~b}", "", "+1 -1", impl.ExitEnd, -1},
	{"{abc:+a=ba=cb=ac.a}", "", "+1 .1 -1", impl.ExitEnd, -1},

	// Behind a fault nothing more is destroyed.
	{"{a:.a}", "", "-", impl.ExitFault, 3},
	{"{a:-a}", "", "-", impl.ExitFault, 3},
	{"{ab:=ab}", "", "-", impl.ExitFault, 4},
	{"{ab:+a+b-b.b}", "", "+1 +2 -2", impl.ExitFault, 10},
	{"{ab:+a+b-b-b}", "", "+1 +2 -2", impl.ExitFault, 10},
	{"{ab:+a=ba=ba}", "", "+1 -1", impl.ExitFault, 9},
	{"{a:+a{b:+b{c:.c}}}", "", "+1 +2", impl.ExitFault, 13},

	// Faults within loops, at the first time and later.
	{"{a:*[.a]}", "m", "-", impl.ExitFault, 5},
	{"{a:+a*[-a]}", "mm", "+1 -1", impl.ExitFault, 7},
	{"{a:+a*[-a]}", "me", "+1 -1", impl.ExitEnd, -1},
	{"{ab:*[+a*[=ba]]}", "mmm", "+1 -1", impl.ExitFault, 10},
	{"{ab:*[+a*[=ba]]}", "mmemmm", "+1 +2 -1 -2", impl.ExitFault, 10},
	{"{a:*[{b:.b}]}", "m", "-", impl.ExitFault, 8},
	{"{a:*[{b:+b}{b:.b}]}", "m", "+1 -1", impl.ExitFault, 14},

	// Ends of scopes, returns and failures.
	{"{a:*[{b:+b}]}", "mme", "+1 -1 +2 -2", impl.ExitEnd, -1},
	{"{a:+a{cb:+b+c}}", "", "+1 +2 +3 -2 -3 -1", impl.ExitEnd, -1},
	{"{a:+a{cb:+b+c^}.a}", "", "+1 +2 +3 -2 -3 -1", impl.ExitReturn, -1},
	{"{ba:+b+a{dc:+d+c!}}", "", "+1 +2 +3 +4 -4 -3 -2 -1", impl.ExitFail, -1},
	{"{a:+a{b:+b}^}", "", "+1 +2 -2 -1", impl.ExitReturn, -1},
	{"{a:+a{b:+b=ab!}}", "", "+1 +2 -1 -2", impl.ExitFail, -1},
	{"{a:+a?[^][!].a}", "l", "+1 -1", impl.ExitReturn, -1},
	{"{a:+a?[^][!].a}", "r", "+1 -1", impl.ExitFail, -1},
	{"{a:*[+a?[^][]]}", "mrmrml", "+1 -1 +2 -2 +3 -3", impl.ExitReturn, -1},
	{"{a:^.a}", "", "-", impl.ExitReturn, -1},
	{"{a:!.a}", "", "-", impl.ExitFail, -1},

	// Numbers of more than one digit.
	{"{a:*[+a-a]}", "mmmmmmmmmmme", "+1 -1 +2 -2 +3 -3 +4 -4 +5 -5 +6 -6 +7 -7 +8 -8 +9 -9 +10 -10 +11 -11", impl.ExitEnd, -1},
}

func TestRunsOfPrograms(t *testing.T) {
	for _, c := range runs {
		events, ok := impl.EventsOf(c.p, c.choices)
		if events != c.events || !ok {
			t.Errorf("EventsOf(%q, %q) = %q, %v", c.p, c.choices, events, ok)
		}
		if got := impl.ExitOf(c.p, c.choices); got != c.exit {
			t.Errorf("ExitOf(%q, %q) = %d", c.p, c.choices, got)
		}
		if got := impl.FaultAt(c.p, c.choices); got != c.fault {
			t.Errorf("FaultAt(%q, %q) = %d", c.p, c.choices, got)
		}
		checkRun(t, c.p, c.choices)
	}
}

// checkNoRun tells all that the chapter says of choices that are not right.
func checkNoRun(t *testing.T, p, choices string) {
	t.Helper()
	events, one := impl.EventsOf(p, choices)
	visits, two := impl.VisitsOf(p, choices)
	if impl.ChoicesRight(p, choices) || events != "" || one || len(visits) != 0 || two {
		t.Errorf("(%q, %q): %v, %q, %v, %v, %v", p, choices, impl.ChoicesRight(p, choices), events, one, visits, two)
	}
	if impl.ExitOf(p, choices) != impl.ExitNone || impl.FaultAt(p, choices) != -1 {
		t.Errorf("(%q, %q): %d, %d", p, choices, impl.ExitOf(p, choices), impl.FaultAt(p, choices))
	}
}

func TestTextsWithoutRuns(t *testing.T) {
	for _, p := range noPrograms {
		for _, choices := range []string{"", "l", "e", "me", "x"} {
			checkNoRun(t, p, choices)
		}
		for n := -1; n <= 7; n++ {
			if list, ok := impl.AllChoices(p, n); len(list) != 0 || ok {
				t.Errorf("AllChoices(%q, %d) = %q, %v", p, n, list, ok)
			}
		}
	}
}

func TestChoicesThatAreNotRight(t *testing.T) {
	for _, c := range []struct{ p, choices string }{
		// None is left over.
		{"{a:}", "l"}, {"{a:}", "e"}, {"{a:}", " "}, {"{a:}", "\x00"}, {"{a:}", "-"},
		{"{a:?[][]}", "ll"}, {"{a:?[][]}", "re"}, {"{a:?[^][]}", "lr"}, {"{a:^?[][]}", "l"}, {"{a:!*[]}", "e"},
		{"{a:*[]}", "ee"}, {"{a:*[]}", "em"}, {"{a:*[^]}", "me"}, {"{a:*[!]}", "mm"}, {"{a:*[.a]}", "me"},
		{"{a:.a*[]}", "e"}, {"{a:.a?[][]}", "l"},
		// None is missing.
		{"{a:?[][]}", ""}, {"{a:?[][]?[][]}", "l"}, {"{a:*[]}", ""}, {"{a:*[]}", "m"}, {"{a:*[]}", "mmm"},
		{"{a:?[*[]][]}", "l"}, {"{a:?[*[]][]}", "lm"}, {"{a:*[?[][]]}", "m"}, {"{a:*[?[][]]}", "ml"}, {"{a:?[][].a}", ""},
		// Each is one of those that are chosen between.
		{"{a:?[][]}", "e"}, {"{a:?[][]}", "m"}, {"{a:?[][]}", "L"}, {"{a:?[][]}", " l"}, {"{a:?[][]}", "l "}, {"{a:?[][]}", "\xff"},
		{"{a:*[]}", "l"}, {"{a:*[]}", "r"}, {"{a:*[]}", "E"}, {"{a:*[]}", "m\x00e"}, {"{a:*[]}", "\n"}, {"{a:*[]}", "-"}, {"{a:*[]}", "me\x00"},
		{"{a:?[*[]][]}", "ll"}, {"{a:*[?[][]]}", "me"},
	} {
		checkNoRun(t, c.p, c.choices)
		checkRun(t, c.p, c.choices)
	}
}

// TestChoicesNextToRightOnes leaves out, replaces and puts in each byte of right choices.
func TestChoicesNextToRightOnes(t *testing.T) {
	for _, p := range append(randomPrograms(t, 21, 30), programs...) {
		list, _ := impl.AllChoices(p, 5)
		for _, choices := range list {
			for i := range len(choices) + 1 {
				if i < len(choices) {
					checkRun(t, p, choices[:i]+choices[i+1:])
				}
				for _, b := range []string{"l", "r", "e", "m", "x", "\x00", "\xff", " ", "lr", "em"} {
					checkRun(t, p, choices[:i]+b+choices[i:])
					if i < len(choices) {
						checkRun(t, p, choices[:i]+b+choices[i+1:])
					}
				}
			}
		}
	}
}

func TestAllBytesAsChoices(t *testing.T) {
	for b := range 256 {
		choice := string([]byte{byte(b)})
		for _, p := range []string{"{a:}", "{a:?[+a][]}", "{a:*[^]}", "{a:*[+a]}", "{a:.a}"} {
			checkRun(t, p, choice)
			checkRun(t, p, "m"+choice)
		}
	}
}

func TestLimitOfChoices(t *testing.T) {
	if impl.MaxChoices != 20 || impl.MaxListed != 6 {
		t.Error("limits")
	}
	loop := "{a:*[+a]}"
	for _, c := range []struct {
		p, choices string
		right      bool
	}{
		{loop, strings.Repeat("m", 18) + "e", true},
		{loop, strings.Repeat("m", 19) + "e", true},
		{loop, strings.Repeat("m", 20) + "e", false},
		{loop, strings.Repeat("m", 20), false},
		{loop, strings.Repeat("m", 10000) + "e", false},
		{"{a:*[?[][]]*[^]}", strings.Repeat("ml", 9) + "em", true},
		{"{a:*[?[][]]*[^]}", strings.Repeat("ml", 9) + "mre", false},
		{"{a:*[?[][^]]}", strings.Repeat("ml", 9) + "mr", true},
		{"{a:*[?[][^]]}", strings.Repeat("ml", 10) + "e", false},
		{"{a:" + strings.Repeat("*[]", 20) + "}", strings.Repeat("e", 20), true},
		{"{a:" + strings.Repeat("*[]", 21) + "}", strings.Repeat("e", 21), false},
		{"{a:" + strings.Repeat("*[]", 21) + "}", strings.Repeat("e", 20), false},
		{"{a:" + strings.Repeat("*[]", 20) + ".a*[]}", strings.Repeat("e", 20), true},
	} {
		if got := impl.ChoicesRight(c.p, c.choices); got != c.right {
			t.Errorf("ChoicesRight(%q, %.30q) = %v", c.p, c.choices, got)
		}
		if !c.right {
			checkNoRun(t, c.p, c.choices)
		}
		checkRun(t, c.p, c.choices)
	}
}

// TestLongestRuns has far more events than chapter 7 takes, but events of a run have no limit.
func TestLongestRuns(t *testing.T) {
	p := "{a:*[" + strings.Repeat("+a", 36) + "]}"
	choices := strings.Repeat("m", 19) + "e"
	events, ok := impl.EventsOf(p, choices)
	if words := strings.Split(events, " "); len(words) != 2*36*19 || words[len(words)-1] != "-684" || !ok {
		t.Errorf("EventsOf has %d words, %v", len(words), ok)
	}
	checkRun(t, p, choices)
}

func TestWhereRunsComeBy(t *testing.T) {
	for _, c := range []struct {
		p, choices string
		want       []impl.Visit
	}{
		{"{a:}", "", []impl.Visit{{At: 0}, {At: 3}}},
		{"{ab:+a{c:=ca}.b}", "", []impl.Visit{{At: 0}, {At: 4}, {At: 6, Holds: "a"}, {At: 9, Holds: "a"}, {At: 12, Holds: "c"}, {At: 13}}},
		{"{ba:+b+a}", "", []impl.Visit{{At: 0}, {At: 4}, {At: 6, Holds: "b"}, {At: 8, Holds: "ab"}}},
		{"{a:{b:+b}+a{b:}}", "", []impl.Visit{{At: 0}, {At: 3}, {At: 6}, {At: 8, Holds: "b"}, {At: 9}, {At: 11, Holds: "a"}, {At: 14, Holds: "a"}, {At: 15, Holds: "a"}}},
		{"{a:?[+a][.a]^}", "l", []impl.Visit{{At: 0}, {At: 3}, {At: 5}, {At: 12, Holds: "a"}}},
		{"{a:?[+a][.a]^}", "r", []impl.Visit{{At: 0}, {At: 3}, {At: 9}}},
		{"{a:*[]}", "mme", []impl.Visit{{At: 0}, {At: 3}, {At: 6}}},
		{"{a:*[+a]!}", "mme", []impl.Visit{{At: 0}, {At: 3}, {At: 5}, {At: 5, Holds: "a"}, {At: 8, Holds: "a"}}},
		{"{a:*[*[+a]]}", "mmemee", []impl.Visit{{At: 0}, {At: 3}, {At: 5}, {At: 7}, {At: 5, Holds: "a"}, {At: 11, Holds: "a"}}},
		{"{a:*[{b:+b}]}", "me", []impl.Visit{{At: 0}, {At: 3}, {At: 5}, {At: 8}, {At: 10, Holds: "b"}, {At: 12}}},
	} {
		if got, ok := impl.VisitsOf(c.p, c.choices); !slices.Equal(got, c.want) || !ok {
			t.Errorf("VisitsOf(%q, %q) = %v, %v", c.p, c.choices, got, ok)
		}
		checkRun(t, c.p, c.choices)
	}
}

func TestAllChoices(t *testing.T) {
	for _, c := range []struct {
		p    string
		n    int
		want []string
	}{
		{"{a:}", 0, []string{""}},
		{"{a:.a}", 6, []string{""}},
		{"{a:^*[]}", 6, []string{""}},
		{"{a:?[][]}", 0, nil},
		{"{a:?[][]}", 1, []string{"l", "r"}},
		{"{a:*[]}", 0, nil},
		{"{a:*[]}", 1, []string{"e"}},
		{"{a:*[]}", 6, []string{"e", "me", "mme", "mmme", "mmmme", "mmmmme"}},
		{"{a:*[.a]}", 6, []string{"e", "m"}},
		{"{a:*[?[][^]]}", 3, []string{"e", "mr", "mle"}},
		{"{a:?[?[][]][]}", 2, []string{"r", "ll", "lr"}},
		{"{a:?[][?[][]]}", 2, []string{"l", "rl", "rr"}},
		{"{a:*[*[]]}", 4, []string{"e", "mee", "mmee"}},
		{"{a:*[]*[]}", 4, []string{"ee", "eme", "mee", "emme", "meme", "mmee"}},
		{"{a:*[]?[][]}", 3, []string{"el", "er", "mel", "mer"}},
		{"{a:?[+a][]*[.a]}", 3, []string{"le", "re", "rm", "lme"}},
	} {
		if got, ok := impl.AllChoices(c.p, c.n); !slices.Equal(got, c.want) || !ok {
			t.Errorf("AllChoices(%q, %d) = %q, %v", c.p, c.n, got, ok)
		}
	}
}

func TestLimitOfListedChoices(t *testing.T) {
	all := "{a:" + strings.Repeat("?[][]", 6) + "}"
	if list, ok := impl.AllChoices(all, 6); len(list) != 64 || list[0] != "llllll" || list[1] != "lllllr" || list[63] != "rrrrrr" || !ok {
		t.Errorf("AllChoices of six branches = %q, %v", list, ok)
	}
	if list, ok := impl.AllChoices(all, 5); len(list) != 0 || !ok {
		t.Errorf("AllChoices of six branches, at most five = %q, %v", list, ok)
	}
	more := "{a:" + strings.Repeat("?[][]", 7) + "}"
	if list, ok := impl.AllChoices(more, 6); len(list) != 0 || !ok {
		t.Errorf("AllChoices of seven branches = %q, %v", list, ok)
	}
	for _, n := range []int{-1, 7, 8, 20, 21, -1 << 63, 1<<63 - 1} {
		if list, ok := impl.AllChoices("{a:}", n); len(list) != 0 || ok {
			t.Errorf("AllChoices(%d) = %q, %v", n, list, ok)
		}
	}
}

// TestAllChoicesAreThoseThatAreRight tries all texts of choices.
func TestAllChoicesAreThoseThatAreRight(t *testing.T) {
	texts := textsOfChoices(6)
	for _, p := range append(randomPrograms(t, 22, 40), programs...) {
		want := listedOf(p, texts)
		for n := range 7 {
			short := slices.DeleteFunc(slices.Clone(want), func(text string) bool { return len(text) > n })
			if got, ok := impl.AllChoices(p, n); !slices.Equal(got, short) || !ok {
				t.Errorf("AllChoices(%q, %d) = %q, %v, not %q", p, n, got, ok, short)
			}
		}
	}
}

func TestRunsOfProgramsAtRandom(t *testing.T) {
	random := rand.New(rand.NewSource(23))
	for _, p := range append(randomPrograms(t, 24, 1500), programs...) {
		list, ok := impl.AllChoices(p, 6)
		if !ok {
			t.Fatalf("AllChoices(%q) is false", p)
		}
		for _, choices := range list {
			checkRun(t, p, choices)
		}
		// Longer ones, of which some are too long.
		for range 3 {
			checkRun(t, p, choicesAtRandom(random, p))
		}
	}
}

func TestEventsAreTheSameEachTime(t *testing.T) {
	p := "{ab:*[+a?[=ba][.b]]}"
	list, _ := impl.AllChoices(p, 6)
	for _, choices := range list {
		one, _ := impl.EventsOf(p, choices)
		two, _ := impl.EventsOf(p, choices)
		if one != two {
			t.Errorf("EventsOf(%q) = %q, then %q", choices, one, two)
		}
	}
}

func TestListsOfChapter2ShareNoMemory(t *testing.T) {
	p := "{a:*[?[+a][]]}"
	first, _ := impl.AllChoices(p, 6)
	want := slices.Clone(first)
	first = first[:cap(first)]
	for i := range first {
		first[i] = "other"
	}
	if again, _ := impl.AllChoices(p, 6); !slices.Equal(again, want) {
		t.Errorf("AllChoices = %q", again)
	}
	visits, _ := impl.VisitsOf(p, "mle")
	seen := slices.Clone(visits)
	visits = visits[:cap(visits)]
	for i := range visits {
		visits[i] = impl.Visit{At: -7, Holds: "x"}
	}
	if again, _ := impl.VisitsOf(p, "mle"); !slices.Equal(again, seen) {
		t.Errorf("VisitsOf = %v", again)
	}
}

func TestNameOfExit(t *testing.T) {
	if impl.ExitNone != 0 || impl.ExitEnd != 1 || impl.ExitReturn != 2 || impl.ExitFail != 3 || impl.ExitFault != 4 {
		t.Error("numbers of exits")
	}
	for exit, want := range map[int]string{
		0: "none", 1: "end", 2: "return", 3: "fail", 4: "fault",
		-1: "none", 5: "none", 256: "none", 257: "none", 1<<32 + 1: "none", -1 << 63: "none", 1<<63 - 1: "none",
	} {
		if got := impl.NameOfExit(exit); got != want {
			t.Errorf("NameOfExit(%d) = %q", exit, got)
		}
	}
}
