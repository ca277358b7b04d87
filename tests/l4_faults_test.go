package tests

import (
	"math/rand"
	"slices"
	"strings"
	"testing"

	"loop.example/endsoflife/impl"
)

// faults are programs and where their steps begin, by their faults: none, maybe, always and dead.
var faults = []struct {
	p     string
	steps [4][]int
}{
	// Steps that need no value have none where they are reached.
	{"{a:}", [4][]int{{0}}},
	{"{ab:+a~b?[][]*[]{c:}^}", [4][]int{{0, 4, 6, 8, 13, 16, 20}}},
	{"{a:!}", [4][]int{{0, 3}}},
	{"{a:~a+a~a~a}", [4][]int{{0, 3, 5, 7, 9}}},
	{"{a:+a+a}", [4][]int{{0, 3, 5}}},

	// Steps that need one that is held for sure.
	{"{ab:+a.a=ba.b-b}", [4][]int{{0, 4, 6, 8, 11, 13}}},
	{"{a:?[+a][+a+a].a}", [4][]int{{0, 3, 5, 9, 11, 14}}},
	{"{a:?[+a][^].a}", [4][]int{{0, 3, 5, 9, 11}}},
	{"{a:+a*[.a]-a}", [4][]int{{0, 3, 5, 7, 10}}},
	{"{a:{b:+b=ab}-a}", [4][]int{{0, 3, 6, 8, 12}}},
	// It is the source of a move that is needed, not what it moves to.
	{"{ab:+b=ab}", [4][]int{{0, 4, 6}}},
	{"{ab:+a=ab}", [4][]int{{0, 4}, nil, {6}}},
	{"{ab:+a+b=ab=ba}", [4][]int{{0, 4, 6, 8, 11}}},

	// Those that need one that may be held.
	{"{ab:+a?[=ba][].b}", [4][]int{{0, 4, 6, 8}, {14}}},
	{"{ab:+a?[=ba][].a}", [4][]int{{0, 4, 6, 8}, {14}}},
	{"{a:?[+a][]-a}", [4][]int{{0, 3, 5}, {10}}},
	{"{ab:?[+a][]=ba}", [4][]int{{0, 4, 6}, {11}}},
	{"{a:?[+a][].a.a}", [4][]int{{0, 3, 5, 12}, {10}}},
	{"{a:?[+a][]-a.a+a}", [4][]int{{0, 3, 5}, {10}, {12}, {14}}},
	{"{a:?[+a][].a?[-a][]-a}", [4][]int{{0, 3, 5, 12, 14}, {10, 19}}},

	// Those that need one that is not held: behind them nothing is reached.
	{"{a:.a-a}", [4][]int{{0}, nil, {3}, {5}}},
	{"{a:-a}", [4][]int{{0}, nil, {3}}},
	{"{ab:=ab.a+a{c:}}", [4][]int{{0}, nil, {4}, {7, 9, 11}}},
	{"{a:+a~a-a}", [4][]int{{0, 3, 5}, nil, {7}}},
	{"{a:+a-a-a-a}", [4][]int{{0, 3, 5}, nil, {7}, {9}}},
	{"{a:?[.a+a][-a]+a}", [4][]int{{0, 3}, nil, {5, 11}, {7, 14}}},
	{"{a:?[.a+a][]+a}", [4][]int{{0, 3, 12}, nil, {5}, {7}}},
	{"{ab:?[+a][].a.b+b}", [4][]int{{0, 4, 6}, {11}, {13}, {15}}},
	{"{a:{b:.b}+a}", [4][]int{{0, 3}, nil, {6}, {9}}},
	{"{a:{b:+b}{b:.b}}", [4][]int{{0, 3, 6, 9}, nil, {12}}},
	{"{a:.a?[.a][.a]*[.a]{b:.b}}", [4][]int{{0}, nil, {3}, {5, 7, 11, 14, 16, 19, 22}}},

	// Those behind a return or a failure are dead, whatever they need.
	{"{a:^.a}", [4][]int{{0, 3}, nil, nil, {4}}},
	{"{a:!+a.a~a^}", [4][]int{{0, 3}, nil, nil, {4, 6, 8, 10}}},
	{"{a:+a?[^.a][!-a].a}", [4][]int{{0, 3, 5, 7, 12}, nil, nil, {8, 13, 16}}},

	// Loops whose first time has a fault: what follows in the loop is never done.
	{"{a:*[.a+a]}", [4][]int{{0, 3}, nil, {5}, {7}}},
	{"{a:*[-a+a].a}", [4][]int{{0, 3}, nil, {5, 10}, {7}}},
	{"{a:*[*[.a]+a]}", [4][]int{{0, 3, 5, 10}, {7}}},
	{"{ab:*[=ab+b]+b.b}", [4][]int{{0, 4, 12, 14}, nil, {6}, {9}}},
	// Those whose second time has one, or whose first time may leave them out.
	{"{a:+a*[.a-a]}", [4][]int{{0, 3, 5, 9}, {7}}},
	{"{a:+a*[-a]}", [4][]int{{0, 3, 5}, {7}}},
	{"{a:*[?[.a][]+a]}", [4][]int{{0, 3, 5, 12}, {7}}},
	{"{a:*[+a].a}", [4][]int{{0, 3, 5}, {8}}},
	{"{a:*[+a-a].a}", [4][]int{{0, 3, 5, 7}, nil, {10}}},
	{"{a:*[{b:?[.b][+b].b}]}", [4][]int{{0, 3, 5, 8, 14, 17}, nil, {10}}},
	{"{a:+a*[?[-a^][]].a}", [4][]int{{0, 3, 5, 7, 9, 11, 16}}},
}

func TestFaultsOfSteps(t *testing.T) {
	for _, c := range faults {
		for fault, steps := range c.steps {
			for _, at := range steps {
				if got := impl.FaultOf(c.p, at); got != fault {
					t.Errorf("FaultOf(%q, %d) = %d, not %d", c.p, at, got, fault)
				}
			}
		}
		checkSteps(t, c.p, c.steps)
		checkChapter4(t, c.p)
	}
}

func TestNeedsOfSteps(t *testing.T) {
	for _, c := range []struct {
		p    string
		at   int
		need string
	}{
		{"{ab:=ab}", 4, "b"}, {"{ab:=ba}", 4, "a"}, {"{a:.a}", 3, "a"}, {"{a:-a}", 3, "a"},
		{"{fedcba:.f}", 8, "f"}, {"{fedcba:-f}", 8, "f"}, {"{fedcba:=af}", 8, "f"},
		// Steps that are not reached, or that end with no fault, need it all the same.
		{"{a:^.a}", 4, "a"}, {"{ab:!=ab}", 5, "b"}, {"{a:+a.a}", 5, "a"}, {"{a:.a-a}", 5, "a"}, {"{a:*[?[][{b:.b}]]}", 12, "b"},
		// Those that need none.
		{"{a:+a}", 3, ""}, {"{a:~a}", 3, ""}, {"{a:^}", 3, ""}, {"{a:!}", 3, ""}, {"{a:?[.a][.a]}", 3, ""}, {"{a:*[.a]}", 3, ""}, {"{a:{b:.b}}", 3, ""}, {"{a:.a}", 0, ""},
		// Bytes at which none begins.
		{"{a:.a}", 1, ""}, {"{a:.a}", 2, ""}, {"{a:.a}", 4, ""}, {"{a:.a}", 5, ""}, {"{a:.a}", 6, ""}, {"{a:.a}", -1, ""}, {"{ab:=ab}", 5, ""}, {"{ab:=ab}", 6, ""},
	} {
		if got, ok := impl.NeedOf(c.p, c.at); got != c.need || ok != (c.need != "") {
			t.Errorf("NeedOf(%q, %d) = %q, %v, not %q", c.p, c.at, got, ok, c.need)
		}
	}
}

func TestSafeAndBrokenPrograms(t *testing.T) {
	for _, c := range []struct {
		p            string
		safe, broken bool
	}{
		{"{a:}", true, false},
		{"{a:+a.a}", true, false},
		{"{a:^.a}", true, false},
		{"{a:?[^][!]-a}", true, false},
		{"{a:?[+a][].a}", false, false},
		{"{a:+a*[-a]}", false, false},
		{"{a:.a}", false, true},
		{"{a:*[.a+a]}", false, true},
		{"{a:?[.a][]}", false, true},
		{"{ab:?[+a][].a.b+b}", false, true},
		// What may or must have a fault is told by what is known, also if no run comes to it.
		{"{a:?[+a][^]?[-a][]?[.a][]}", false, false},
		{"x", false, false}, {"", false, false}, {"{a:.a", false, false}, {"{a:.b}", false, false},
	} {
		if impl.IsSafe(c.p) != c.safe || impl.IsBroken(c.p) != c.broken {
			t.Errorf("IsSafe and IsBroken(%q) = %v, %v", c.p, impl.IsSafe(c.p), impl.IsBroken(c.p))
		}
	}
}

func TestFirstChoicesWithFaults(t *testing.T) {
	six, seven := strings.Repeat("?[][]", 6), strings.Repeat("?[][]", 7)
	for _, c := range []struct {
		p, want string
		ok      bool
	}{
		// The only run, and none with a fault.
		{"{a:.a}", "", true}, {"{a:+a.a}", "", false}, {"{a:}", "", false}, {"{a:^.a}", "", false},
		{"{ab:+a?[=ba][].b}", "r", true}, {"{a:?[.a][.a]}", "l", true}, {"{a:?[][.a]}", "r", true},
		{"{a:*[.a+a]}", "m", true}, {"{a:*[].a}", "e", true}, {"{a:*[].a*[]}", "e", true}, {"{a:+a*[-a]}", "mm", true}, {"{a:+a*[*[-a]]}", "mmm", true},
		// A short one is ahead of those that come earlier in the program, or choose what is named earlier.
		{"{a:?[?[.a][]][.a]}", "r", true}, {"{a:?[*[]?[][].a][?[?[.a][]][]]}", "lel", true}, {"{a:+a*[-a]?[.a][]}", "mm", true}, {"{a:+a*[-a].a}", "me", true},
		{"{a:?[?[][?[.a][]]][?[.a][]]}", "rl", true}, {"{a:*[?[][.a]].a}", "e", true}, {"{a:*[?[^][.a]]}", "mr", true}, {"{a:*[*[].a]}", "me", true}, {"{a:?[?[][.a]][?[.a][]]}", "lr", true},
		// As long as can be listed, and longer; without runs that are short there is none to show.
		{"{a:" + six + ".a}", "llllll", true}, {"{a:" + seven + ".a}", "", false},
		{"{a:?[][]?[][]?[][]?[][]?[][]?[^][].a}", "lllllr", true}, {"{a:?[^][]?[^][]?[^][]?[^][]?[^][]?[^][].a}", "rrrrrr", true}, {"{a:?[^][]?[^][]?[^][]?[^][]?[^][]?[^][]?[^][].a}", "", false},
		{"{a:*[]*[]*[]*[]*[]*[].a}", "eeeeee", true}, {"{a:*[]*[]*[]*[]*[]*[]*[].a}", "", false},
		{"{abc:+a+b+c*[?[-a][?[-b][-c]]]}", "mlml", true}, {"{abcd:+a+b+c+d*[=ba=cb=dc^]}", "", false}, {"{ab:+a*[?[=ba][+a=ba]]}", "mlml", true},
	} {
		if got, ok := impl.ShowFault(c.p); got != c.want || ok != c.ok {
			t.Errorf("ShowFault(%q) = %q, %v, not %q, %v", c.p, got, ok, c.want, c.ok)
		}
		checkChapter4(t, c.p)
	}
	for _, p := range []string{"{a:" + seven + ".a}", "{a:*[]*[]*[]*[]*[]*[]*[].a}"} {
		if !impl.IsBroken(p) || impl.IsSafe(p) {
			t.Errorf("IsBroken(%q) = false, or IsSafe is true", p)
		}
	}
}

func TestTextsWithoutFaults(t *testing.T) {
	for _, p := range noPrograms {
		checkNoFaults(t, p)
	}
	for b := range 256 {
		checkNoFaults(t, string([]byte{byte(b)}))
		checkChapter4(t, "{a:"+string([]byte{byte(b)})+"a}")
		checkChapter4(t, "{ab:"+string([]byte{byte(b)})+"ba}")
	}
	for _, p := range []string{
		"{a:" + strings.Repeat(".a", 39) + "}",
		"{a:" + strings.Repeat("*[", 1<<20) + ".a" + strings.Repeat("]", 1<<20) + "}",
		strings.Repeat("{a:", 1<<20),
		"{a:{b:{c:{d:{e:.a}}}}}",
	} {
		checkNoFaults(t, p)
	}
}

func TestBytesWithoutFaults(t *testing.T) {
	p := "{ab:+a?[=ba][].b{c:}^.a}"
	starts := []int{0, 4, 6, 8, 14, 16, 20, 21}
	for at := -300; at <= 300; at++ {
		if !slices.Contains(starts, at) {
			checkFault(t, p, at, -1, "")
		} else if impl.FaultOf(p, at) < 0 {
			t.Errorf("FaultOf(%q, %d) = %d", p, at, impl.FaultOf(p, at))
		}
	}
	for _, at := range []int{-1 << 63, -1<<63 + 8, -1 << 32, 1 << 32, 1<<32 + 8, 1<<63 - 1} {
		checkFault(t, p, at, -1, "")
		checkFault(t, "x", at, -1, "")
	}
}

func TestNumbersThatAreNoFaults(t *testing.T) {
	p := "{ab:?[+a][].a.b+b}"
	for _, fault := range []int{-1, -4, 4, 5, 255, 256, 1 << 32, -1 << 32, -1 << 63, 1<<63 - 1} {
		if list, ok := impl.StepsWith(p, fault); len(list) != 0 || ok {
			t.Errorf("StepsWith(%d) = %v, %v", fault, list, ok)
		}
		if word := impl.NameOfFault(fault); word != "" {
			t.Errorf("NameOfFault(%d) = %q", fault, word)
		}
	}
}

func TestNameOfFault(t *testing.T) {
	if impl.FaultNone != 0 || impl.FaultMaybe != 1 || impl.FaultAlways != 2 || impl.FaultDead != 3 {
		t.Error("the numbers of the faults")
	}
	for fault, want := range []string{"none", "maybe", "always", "dead", "", ""} {
		if got := impl.NameOfFault(fault); got != want {
			t.Errorf("NameOfFault(%d) = %q", fault, got)
		}
	}
}

// TestFaultsOfLongPrograms has programs as long as they may be.
func TestFaultsOfLongPrograms(t *testing.T) {
	checkValid(t, checkChapter4,
		"{a:"+strings.Repeat(".a", 38)+"}",
		"{a:+a"+strings.Repeat("-a", 37)+"}",
		"{a:"+strings.Repeat("*[", 24)+".a"+strings.Repeat("]", 24)+"+a}",
		"{a:"+strings.Repeat("*[.a", 14)+"+a"+strings.Repeat("]", 14)+"}",
		"{a:"+strings.Repeat("?[][]", 14)+".a-a}",
		"{abcdef:*["+"?[=fe][]?[=ed][]?[=dc][]?[=cb][]?[=ba][]+a"+"]}",
		"{a:*[{b:*[{c:*[{d:"+strings.Repeat("?[-d][]", 6)+"}]}]}]}",
	)
}

// TestFaultsOfTextsNextToPrograms leaves out, replaces and puts in bytes of programs.
func TestFaultsOfTextsNextToPrograms(t *testing.T) {
	for _, p := range programs {
		for _, text := range textsNextTo(p, "^", "+a", "-a", ".a", "a", "\x00") {
			checkChapter4(t, text)
		}
	}
}

func TestFaultsOfProgramsAtRandom(t *testing.T) {
	for _, p := range append(randomPrograms(t, 41, 1200), programs...) {
		checkChapter4(t, p)
	}
}

// checkFaultOfRun tells whether what is known of faults holds in a run: a run with a fault has it at a step that
// may have one, and a step that always has one is done at most once in a run, the last time that it goes on.
func checkFaultOfRun(t *testing.T, p, choices string) {
	t.Helper()
	at := impl.FaultAt(p, choices)
	if at >= 0 {
		if impl.IsSafe(p) {
			t.Errorf("%q, %q: a safe program has a fault at %d", p, choices, at)
		}
		if fault := impl.FaultOf(p, at); fault != impl.FaultMaybe && fault != impl.FaultAlways {
			t.Errorf("%q, %q: FaultOf(%d) = %d, but the run has a fault there", p, choices, at, fault)
		}
	}
	visits, _ := impl.VisitsOf(p, choices)
	for i, v := range visits {
		fault := impl.FaultOf(p, v.At)
		if fault == impl.FaultDead {
			t.Errorf("%q, %q: a run comes by %d, which is dead", p, choices, v.At)
		}
		if fault == impl.FaultAlways && (v.At != at || i != len(visits)-1) {
			t.Errorf("%q, %q: the run goes on behind %d", p, choices, v.At)
		}
	}
}

func TestFaultsHoldInEachRun(t *testing.T) {
	random := rand.New(rand.NewSource(42))
	list := append(randomPrograms(t, 43, 500), programs...)
	for _, c := range faults {
		list = append(list, c.p)
	}
	for _, p := range list {
		first, shown := impl.ShowFault(p)
		short, _ := impl.AllChoices(p, 6)
		for _, choices := range short {
			if shown && choices == first {
				shown = false
			} else if shown && impl.ExitOf(p, choices) == impl.ExitFault {
				t.Errorf("ShowFault(%q) = %q, but %q comes first", p, first, choices)
			}
			checkFaultOfRun(t, p, choices)
		}
		if shown {
			t.Errorf("ShowFault(%q) = %q, which are not the choices of a run", p, first)
		}
		// Longer ones.
		for range 3 {
			if choices := choicesAtRandom(random, p); len(choices) <= 20 {
				checkFaultOfRun(t, p, choices)
			}
		}
	}
}

func TestListsOfChapter4ShareNoMemory(t *testing.T) {
	p := "{ab:?[+a][].a?[.b][].b+a-a}"
	for fault := range 4 {
		first, _ := impl.StepsWith(p, fault)
		want := slices.Clone(first)
		first = first[:cap(first)]
		for i := range first {
			first[i] = -7
		}
		if again, ok := impl.StepsWith(p, fault); !slices.Equal(again, want) || !ok {
			t.Errorf("StepsWith(%d) = %v, then %v", fault, want, again)
		}
	}
}
