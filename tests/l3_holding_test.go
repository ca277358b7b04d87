package tests

import (
	"slices"
	"strings"
	"testing"

	"loop.example/endsoflife/impl"
)

// heldAt are points of programs that are reached, and the variables that may and that must hold a value there.
var heldAt = []struct {
	p         string
	at        int
	may, must string
}{
	// The beginning, and the end of a program without steps.
	{"{a:}", 0, "", ""}, {"{a:}", 3, "", ""}, {"{fedcba:}", 0, "", ""}, {"{fedcba:}", 8, "", ""},

	// Behind each kind of step with variables.
	{"{ab:+a}", 4, "", ""}, {"{ab:+a}", 6, "a", "a"}, {"{a:+a+a}", 7, "a", "a"},
	{"{a:?[+a][].a}", 10, "a", ""}, {"{a:?[+a][].a}", 12, "a", "a"},
	{"{a:?[+a][]-a}", 10, "a", ""}, {"{a:?[+a][]-a}", 12, "", ""},
	{"{a:?[+a][]~a}", 10, "a", ""}, {"{a:?[+a][]~a}", 12, "", ""}, {"{a:~a}", 5, "", ""},
	{"{ab:?[+a][]=ba}", 11, "a", ""}, {"{ab:?[+a][]=ba}", 14, "b", "b"},
	{"{ab:+b+a=ba}", 8, "ab", "ab"}, {"{ab:+b+a=ba}", 11, "b", "b"}, {"{ba:+b=ab}", 9, "a", "a"},
	{"{fa:+f+a}", 8, "af", "af"}, {"{fedcba:+f+e+d+c+b+a}", 20, "abcdef", "abcdef"},

	// Branches: from both sides, and from one alone.
	{"{ab:+a?[=ba][].b}", 6, "a", "a"}, {"{ab:+a?[=ba][].b}", 8, "a", "a"}, {"{ab:+a?[=ba][].b}", 14, "ab", ""}, {"{ab:+a?[=ba][].b}", 16, "ab", "b"},
	{"{ab:+a?[=ba^][+b].a}", 11, "b", "b"}, {"{ab:+a?[=ba^][+b].a}", 17, "ab", "ab"}, {"{ab:+a?[=ba^][+b].a}", 19, "ab", "ab"},
	{"{a:?[+a][!]}", 11, "a", "a"}, {"{a:?[.a][]}", 10, "", ""}, {"{a:?[.a][]}", 5, "", ""},
	{"{ab:?[+a+b][+b]}", 15, "ab", "b"}, {"{ab:?[?[+a][^]][+a+b]}", 21, "ab", "a"},

	// Ends of scopes: their own variables are still told, and not behind them.
	{"{a:+a{b:+b}}", 8, "a", "a"}, {"{a:+a{b:+b}}", 10, "ab", "ab"}, {"{a:+a{b:+b}}", 11, "a", "a"},
	{"{a:{b:+b=ab}+a}", 6, "", ""}, {"{a:{b:+b=ab}+a}", 11, "a", "a"}, {"{a:{b:+b}{b:.b}}", 8, "b", "b"}, {"{a:{b:+b}{b:.b}}", 9, "", ""}, {"{a:{b:+b}{b:.b}}", 12, "", ""},
	{"{a:{b:?[+b][]}}", 13, "b", ""}, {"{a:{b:?[+b][]}}", 14, "", ""}, {"{a:{b:{c:{d:+a+b+c+d}}}}", 20, "abcd", "abcd"}, {"{a:{b:{c:{d:+a+b+c+d}}}}", 21, "abc", "abc"}, {"{a:{b:{c:{d:+a+b+c+d}}}}", 23, "a", "a"},
}

// loopsHeldAt are points of programs with loops.
var loopsHeldAt = []struct {
	p         string
	at        int
	may, must string
}{
	// Ahead of a loop is not within it.
	{"{a:*[+a]}", 3, "", ""}, {"{a:*[+a]}", 5, "a", ""}, {"{a:*[+a]}", 8, "a", ""},
	{"{a:+a*[~a]}", 5, "a", "a"}, {"{a:+a*[~a]}", 7, "a", ""}, {"{a:+a*[~a]}", 10, "a", ""},
	{"{a:+a*[.a]}", 7, "a", "a"}, {"{a:+a*[.a]}", 10, "a", "a"}, {"{a:+a*[]}", 8, "a", "a"},

	// What is known moves on by one variable each time.
	{"{abc:*[?[=cb][]?[=ba][]+a]}", 5, "", ""}, {"{abc:*[?[=cb][]?[=ba][]+a]}", 7, "abc", ""}, {"{abc:*[?[=cb][]?[=ba][]+a]}", 9, "abc", ""},
	{"{abc:*[?[=cb][]?[=ba][]+a]}", 15, "abc", ""}, {"{abc:*[?[=cb][]?[=ba][]+a]}", 23, "abc", ""}, {"{abc:*[?[=cb][]?[=ba][]+a]}", 26, "abc", ""},
	// What must holds no more, one variable each time.
	{"{ab:+a+b*[.a.b?[-b][]]}", 8, "ab", "ab"}, {"{ab:+a+b*[.a.b?[-b][]]}", 10, "ab", "a"}, {"{ab:+a+b*[.a.b?[-b][]]}", 12, "ab", "a"}, {"{ab:+a+b*[.a.b?[-b][]]}", 14, "ab", "ab"}, {"{ab:+a+b*[.a.b?[-b][]]}", 16, "ab", "ab"}, {"{ab:+a+b*[.a.b?[-b][]]}", 22, "ab", "a"},
	// A step to which a run comes the second time alone.
	{"{ab:*[?[.a^][]+a]}", 6, "a", ""}, {"{ab:*[?[.a^][]+a]}", 8, "a", ""}, {"{ab:*[?[.a^][]+a]}", 10, "a", "a"}, {"{ab:*[?[.a^][]+a]}", 14, "a", ""}, {"{ab:*[?[.a^][]+a]}", 17, "a", ""},

	// No run comes to the end of what stands in the loop.
	{"{a:+a*[-a^]}", 7, "a", "a"}, {"{a:+a*[-a^]}", 9, "", ""}, {"{a:+a*[-a^]}", 11, "a", "a"}, {"{a:*[.a]}", 5, "", ""}, {"{a:*[.a]}", 8, "", ""}, {"{a:*[-a+a]}", 5, "", ""}, {"{a:*[-a+a]}", 10, "", ""}, {"{a:*[^]+a}", 7, "", ""},

	// Loops within loops.
	{"{ab:*[*[=ba]+a]}", 4, "", ""}, {"{ab:*[*[=ba]+a]}", 6, "ab", ""}, {"{ab:*[*[=ba]+a]}", 8, "ab", ""}, {"{ab:*[*[=ba]+a]}", 12, "ab", ""}, {"{ab:*[*[=ba]+a]}", 15, "ab", ""},
	{"{a:*[~a*[+a]]}", 5, "a", ""}, {"{a:*[~a*[+a]]}", 7, "", ""}, {"{a:*[~a*[+a]]}", 9, "a", ""}, {"{a:*[~a*[+a]]}", 13, "a", ""},
	{"{a:+a*[*[*[.a]-a]]}", 5, "a", "a"}, {"{a:+a*[*[*[.a]-a]]}", 7, "a", ""}, {"{a:+a*[*[*[.a]-a]]}", 9, "a", ""}, {"{a:+a*[*[*[.a]-a]]}", 11, "a", ""}, {"{a:+a*[*[*[.a]-a]]}", 14, "a", ""}, {"{a:+a*[*[*[.a]-a]]}", 18, "a", ""},

	// Variables of a scope within a loop hold nothing when it begins once more.
	{"{a:*[{b:+b}]}", 5, "", ""}, {"{a:*[{b:+b}]}", 8, "", ""}, {"{a:*[{b:+b}]}", 10, "b", "b"}, {"{a:*[{b:+b}]}", 12, "", ""},
	{"{a:*[{b:?[+b][].b=ab}]}", 5, "a", ""}, {"{a:*[{b:?[+b][].b=ab}]}", 8, "a", ""}, {"{a:*[{b:?[+b][].b=ab}]}", 10, "a", ""}, {"{a:*[{b:?[+b][].b=ab}]}", 15, "ab", ""}, {"{a:*[{b:?[+b][].b=ab}]}", 17, "ab", "b"}, {"{a:*[{b:?[+b][].b=ab}]}", 20, "a", "a"}, {"{a:*[{b:?[+b][].b=ab}]}", 22, "a", ""},
	{"{a:*[{b:+b?[+a^][]}]}", 14, "ab", "ab"}, {"{a:*[{b:+b?[+a^][]}]}", 18, "b", "b"}, {"{a:*[{b:+b?[+a^][]}]}", 20, "", ""},
	{"{a:*[{b:*[+b]}{b:}]}", 8, "", ""}, {"{a:*[{b:*[+b]}{b:}]}", 10, "b", ""}, {"{a:*[{b:*[+b]}{b:}]}", 13, "b", ""}, {"{a:*[{b:*[+b]}{b:}]}", 14, "", ""}, {"{a:*[{b:*[+b]}{b:}]}", 17, "", ""},
}

func TestWhatVariablesHold(t *testing.T) {
	for _, c := range append(slices.Clone(heldAt), loopsHeldAt...) {
		may, one := impl.MayHold(c.p, c.at)
		must, two := impl.MustHold(c.p, c.at)
		if may != c.may || !one || must != c.must || !two {
			t.Errorf("MayHold and MustHold(%q, %d) = %q, %v, %q, %v", c.p, c.at, may, one, must, two)
		}
		unsure, three := impl.UnsureAt(c.p, c.at)
		if want := varsWithout(c.may, c.must); unsure != want || !three {
			t.Errorf("UnsureAt(%q, %d) = %q, %v, not %q", c.p, c.at, unsure, three, want)
		}
		if !impl.IsReached(c.p, c.at) {
			t.Errorf("IsReached(%q, %d) = false", c.p, c.at)
		}
		checkChapter3(t, c.p)
	}
}

// varsWithout returns the variables of a text that are not in another one.
func varsWithout(vars, others string) string {
	left := ""
	for _, v := range strings.Split(vars, "") {
		if !strings.Contains(others, v) {
			left += v
		}
	}
	return left
}

// unreached are programs, their points that no run comes by, those of them at which steps begin, and whether a run comes to the end.
var unreached = []struct {
	p            string
	points, dead []int
	end          bool
}{
	{"{a:}", nil, nil, true},
	{"{ab:+a?[=ba][].b}", nil, nil, true},

	// Behind a return or a failure.
	{"{a:^}", []int{4}, nil, false},
	{"{a:!}", []int{4}, nil, false},
	{"{a:^+a}", []int{4, 6}, []int{4}, false},
	{"{a:!^!}", []int{4, 5, 6}, []int{4, 5}, false},
	{"{a:^{b:+b}}", []int{4, 7, 9, 10}, []int{4, 7}, false},
	{"{a:{b:^}+a}", []int{7, 8, 10}, []int{8}, false},
	{"{a:^?[+a][.a]*[-a]}", []int{4, 6, 10, 13, 15, 18}, []int{4, 6, 10, 13, 15}, false},
	{"{a:+a*[^]}", nil, nil, true},
	{"{a:*[^+a].a}", []int{6, 11}, []int{6}, false},
	{"{a:*[!]}", nil, nil, true},

	// Both sides of a branch, and one of them.
	{"{a:?[^][!]}", []int{10}, nil, false},
	{"{a:?[^][!].a}", []int{10, 12}, []int{10}, false},
	{"{a:?[^.a][]}", []int{6}, []int{6}, true},
	{"{a:?[][!~a]}", []int{8}, []int{8}, true},
	{"{a:?[?[^][!]+a][?[!][^]{b:}]}", []int{12, 23, 26, 28}, []int{12, 23}, false},

	// Behind a step whose variable may hold no value.
	{"{a:.a}", []int{5}, nil, false},
	{"{a:-a}", []int{5}, nil, false},
	{"{ab:=ab}", []int{7}, nil, false},
	{"{a:~a}", nil, nil, true},
	{"{a:.a+a}", []int{5, 7}, []int{5}, false},
	{"{a:-a?[][.a]}", []int{5, 9, 12}, []int{5, 9}, false},
	{"{ab:+b=ba.b}", []int{9, 11}, []int{9}, false},
	{"{ab:+a=ba.a+a}", []int{11, 13}, []int{11}, false},
	{"{a:+a-a-a+a}", []int{9, 11}, []int{9}, false},
	{"{a:+a~a.a+a}", []int{9, 11}, []int{9}, false},
	{"{a:{b:+b}{b:.b}}", []int{14, 15}, nil, false},
	{"{a:*[{b:.b}]}", []int{10}, nil, true},
	{"{a:*[{b:.b+b}{b:+b}]}", []int{10, 12, 13, 16, 18}, []int{10, 13, 16}, true},
	{"{a:*[.a+a]}", []int{7}, []int{7}, true},
	{"{a:*[?[.a^][]]}", []int{9}, []int{9}, true},
	{"{a:*[?[.a^][]+a]}", nil, nil, true},
	{"{abc:*[?[.c^][]?[=cb][]?[=ba][]+a]}", nil, nil, true},
	{"{abc:*[?[.c^][]?[=cb][]?[=ba][]]}", []int{11}, []int{11}, true},
}

func TestPointsThatNoRunComesBy(t *testing.T) {
	for _, c := range unreached {
		points, ok := impl.PointsOf(c.p)
		if !ok {
			t.Errorf("PointsOf(%q) is false", c.p)
		}
		var without []int
		for _, at := range points {
			if !impl.IsReached(c.p, at) {
				without = append(without, at)
				checkPoint(t, c.p, at, "")
			}
		}
		if !slices.Equal(without, c.points) {
			t.Errorf("%q: no run comes by %v", c.p, without)
		}
		if dead, ok := impl.DeadSteps(c.p); !slices.Equal(dead, c.dead) || !ok {
			t.Errorf("DeadSteps(%q) = %v, %v", c.p, dead, ok)
		}
		if got := impl.CanEnd(c.p); got != c.end {
			t.Errorf("CanEnd(%q) = %v", c.p, got)
		}
		checkChapter3(t, c.p)
	}
}

func TestPointsOfPrograms(t *testing.T) {
	for _, c := range []struct {
		p    string
		want []int
	}{
		{"{a:}", []int{0, 3}},
		{"{fedcba:}", []int{0, 8}},
		{"{ab:+a?[=ba][].b}", []int{0, 4, 6, 8, 14, 16}},
		{"{a:^.a}", []int{0, 3, 4, 6}},
		{"{a:*[{b:}{c:*[]}]}", []int{0, 3, 5, 8, 9, 12, 15, 17}},
		{"{a:{b:{c:{d:}}}}", []int{0, 3, 6, 9, 12, 13, 14, 15}},
		{"{a:+a-a~a.a{b:=ab}!}", []int{0, 3, 5, 7, 9, 11, 14, 17, 18, 19}},
	} {
		if got, ok := impl.PointsOf(c.p); !slices.Equal(got, c.want) || !ok {
			t.Errorf("PointsOf(%q) = %v, %v", c.p, got, ok)
		}
	}
}

func TestTextsOfWhichNothingIsKnown(t *testing.T) {
	for _, p := range noPrograms {
		checkNothingKnown(t, p)
	}
	for b := range 256 {
		checkNothingKnown(t, string([]byte{byte(b)}))
	}
	for _, p := range []string{
		"{a:" + strings.Repeat("^", 77) + "}",
		"{a:" + strings.Repeat("*[", 1<<20) + strings.Repeat("]", 1<<20) + "}",
		strings.Repeat("{a:", 1<<20),
		"{a:{b:{c:{d:{e:+a}}}}}",
	} {
		checkNothingKnown(t, p)
	}
}

func TestBytesThatAreNoPoints(t *testing.T) {
	p := "{ab:+a?[=ba][]*[{c:}].b}"
	points := []int{0, 4, 6, 8, 14, 16, 19, 21, 23}
	if got, ok := impl.PointsOf(p); !slices.Equal(got, points) || !ok {
		t.Errorf("PointsOf(%q) = %v, %v", p, got, ok)
	}
	for at := -300; at <= 300; at++ {
		if slices.Contains(points, at) != impl.IsReached(p, at) {
			t.Errorf("IsReached(%q, %d) = %v", p, at, !slices.Contains(points, at))
		}
		if !slices.Contains(points, at) {
			checkPoint(t, p, at, "")
		}
	}
	for _, at := range []int{-1 << 63, -1<<63 + 4, -1 << 32, 1 << 32, 1<<32 + 4, 1<<63 - 1} {
		checkPoint(t, p, at, "")
		checkPoint(t, "x", at, "")
	}
}

// TestKnownOfTextsNextToPrograms leaves out, replaces and puts in bytes of programs.
func TestKnownOfTextsNextToPrograms(t *testing.T) {
	for _, p := range programs {
		for _, text := range textsNextTo(p, "^", "~", "+a", "-a", "a", "}", "\x00") {
			checkChapter3(t, text)
		}
	}
}

// TestKnownOfLongPrograms has programs as long as they may be, with as many loops within each other as there can be.
func TestKnownOfLongPrograms(t *testing.T) {
	checkValid(t, checkChapter3,
		"{a:"+strings.Repeat("^", 76)+"}",
		"{a:"+strings.Repeat("+a", 38)+"}",
		"{a:"+strings.Repeat("*[", 24)+"+a"+strings.Repeat("]", 24)+"~a}",
		"{a:"+strings.Repeat("*[~a", 14)+"+a"+strings.Repeat("]", 14)+"}",
		"{a:"+strings.Repeat("*[.a", 14)+"+a"+strings.Repeat("]", 14)+"}",
		"{abcdef:*["+"?[=fe][]?[=ed][]?[=dc][]?[=cb][]?[=ba][]+a"+"]}",
		"{abcdef:+a+b+c+d+e+f*["+".f?[-f][.e?[-e][.d?[-d][.c?[-c][]]]]"+"]}",
		"{a:*[{b:*[{c:*[{d:"+strings.Repeat("?[+d][]", 6)+"}]}]}]}",
	)
}

func TestKnownOfProgramsAtRandom(t *testing.T) {
	for _, p := range append(randomPrograms(t, 31, 1200), programs...) {
		checkChapter3(t, p)
	}
}

// checkVisits tells whether what is known of a program holds in a run of it: each visit is at a point that is
// reached, all variables that must hold a value there do, and none that may not does.
func checkVisits(t *testing.T, p, choices string) {
	t.Helper()
	visits, _ := impl.VisitsOf(p, choices)
	for _, v := range visits {
		may, ok := impl.MayHold(p, v.At)
		must, _ := impl.MustHold(p, v.At)
		if !ok || !impl.IsReached(p, v.At) {
			t.Errorf("%q, %q: a run comes by %d, which is not reached", p, choices, v.At)
		}
		if varsWithout(must, v.Holds) != "" || varsWithout(v.Holds, may) != "" {
			t.Errorf("%q, %q: at %d %q hold a value, but %q may and %q must", p, choices, v.At, v.Holds, may, must)
		}
	}
	if impl.ExitOf(p, choices) == impl.ExitEnd && !impl.CanEnd(p) {
		t.Errorf("%q, %q: the run comes to the end, but CanEnd is false", p, choices)
	}
}

func TestWhatIsKnownHoldsInEachRun(t *testing.T) {
	list := append(randomPrograms(t, 33, 500), programs...)
	for _, c := range loopsHeldAt {
		list = append(list, c.p)
	}
	checkRuns(t, 32, slices.Compact(list), 6, checkVisits)
}

// TestKnownOfStraightProgramsIsWhatTheirRunHolds has programs with one run, which tells all that there is to know.
func TestKnownOfStraightProgramsIsWhatTheirRunHolds(t *testing.T) {
	straight := slices.DeleteFunc(randomPrograms(t, 34, 1500), func(p string) bool { return !impl.IsStraight(p) })
	for _, p := range append(straight, "{ab:+a+b=ba.a+a}", "{a:+a{b:+b^}.a}", "{a:{b:+b=ab}.a}") {
		visits, _ := impl.VisitsOf(p, "")
		states := map[int]string{}
		for _, v := range visits {
			state := []byte("000000")
			for _, name := range []byte(v.Holds) {
				state[name-'a'] = '1'
			}
			states[v.At] = string(state)
		}
		for at := range len(p) {
			checkPoint(t, p, at, states[at])
		}
	}
}

func TestListsOfChapter3ShareNoMemory(t *testing.T) {
	p := "{a:^+a{b:+b*[]}}"
	for _, list := range []func(string) ([]int, bool){impl.PointsOf, impl.DeadSteps} {
		first, _ := list(p)
		want := slices.Clone(first)
		first = first[:cap(first)]
		for i := range first {
			first[i] = -7
		}
		if again, _ := list(p); !slices.Equal(again, want) {
			t.Errorf("%v, then %v", want, again)
		}
	}
}
