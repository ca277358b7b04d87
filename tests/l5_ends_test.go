package tests

import (
	"slices"
	"strings"
	"testing"

	"loop.example/endsoflife/impl"
)

// plans are programs and what they destroy unsaid, and the variables whose flags have to be kept.
var plans = []struct {
	p, text, flags string
}{
	// Nothing is destroyed unsaid.
	{"{a:}", "-", ""}, {"{fedcba:}", "-", ""}, {"{a:^}", "-", ""}, {"{a:!}", "-", ""}, {"{a:?[][]*[]{b:}}", "-", ""},
	{"{a:+a-a}", "-", ""}, {"{a:+a.a-a}", "-", ""}, {"{a:+a-a+a-a}", "-", ""}, {"{ab:+a=ba-b}", "-", ""}, {"{a:+a-a^}", "-", ""}, {"{a:+a{b:+b-b-a!}}", "-", ""},

	// Ends of scopes: the last variable that is declared is the first one, whatever was made when.
	{"{a:+a}", "5-a", ""}, {"{ab:+a+b.a}", "10-b-a", ""}, {"{ab:+b+a}", "8-b-a", ""}, {"{ba:+b+a}", "8-a-b", ""}, {"{bca:+a+b+c}", "11-a-c-b", ""},
	{"{fedcba:+f+d+b}", "14-b-d-f", ""}, {"{abcdef:+a+b+c+d+e+f}", "20-f-e-d-c-b-a", ""},
	{"{ab:+a=ba}", "9-b", ""}, {"{ab:+a+b-a}", "10-b", ""},
	{"{ab:+a?[=ba][]}", "14~b~a", "ab"}, {"{ab:+a?[=ba][].b}", "16-b~a", "a"}, {"{ab:+a?[=ba][].a}", "16~b-a", "b"}, {"{ba:+a?[=ba][].b}", "16~a-b", "a"},
	{"{abc:+a+c?[+b][]}", "16-c~b-a", "b"},
	// A scope destroys its own variables alone, also those that are declared again behind it.
	{"{a:+a{b:+b}}", "10-b 11-a", ""}, {"{a:+a{b:}}", "9-a", ""}, {"{a:{b:+a}}", "9-a", ""}, {"{a:{b:+b}{b:+b}}", "8-b 14-b", ""}, {"{a:{b:+b}{b:?[+b][]}}", "8-b 19~b", "b"},
	{"{a:{b:?[+b][]}{b:+b}}", "13~b 19-b", "b"}, {"{a:{b:+b=ab}}", "12-a", ""}, {"{a:{dc:+c+a+d}}", "13-c-d 14-a", ""},
	{"{a:{b:{c:{d:+a+b+c+d}}}}", "20-d 21-c 22-b 23-a", ""},

	// Values that another one takes the place of: by a new one, and by that of another variable.
	{"{a:+a+a}", "5-a 7-a", ""}, {"{a:+a+a+a-a}", "5-a 7-a", ""}, {"{a:+a-a+a}", "9-a", ""}, {"{a:+a~a+a}", "9-a", ""},
	{"{a:?[+a][]+a}", "10~a 12-a", "a"}, {"{a:?[+a][].a+a}", "12-a 14-a", ""}, {"{ab:+b+a-b}", "10-a", ""}, {"{ab:+a+b+a-a}", "8-a 12-b", ""},
	{"{ab:+a+b=ab}", "8-a 11-a", ""}, {"{ab:+b=ab}", "9-a", ""}, {"{ba:+a+b=ab}", "8-a 11-a", ""}, {"{ab:?[+a][]+b=ab}", "13~a 16-a", "a"},
	{"{ab:+a=ba+a=ba}", "11-b 14-b", ""}, {"{ab:+a+b=ab=ba}", "8-a 14-b", ""},
	// The value of the target is destroyed also where the source holds none, or may hold none.
	{"{ab:+a=ab}", "6-a", ""}, {"{ab:?[+a][]=ab}", "11~a", "a"}, {"{ab:=ab}", "-", ""}, {"{ab:?[+b][]=ab}", "14-a", ""}, {"{ab:+a?[+b][]=ab}", "13-a 16-a", ""},
	// That of the source is not, nor that of a variable that is just used or destroyed.
	{"{ab:+a=ba-b}", "-", ""}, {"{a:?[+a][]-a}", "-", ""}, {"{a:?[+a][].a-a}", "-", ""},

	// Returns within scopes: all that is around them, from the inside to the outside.
	{"{a:+a^}", "5-a", ""}, {"{a:+a!}", "5-a", ""}, {"{a:+a{b:+b!}}", "10-b-a", ""}, {"{a:+a{b:+b^}}", "10-b-a", ""}, {"{ab:{dc:+a+b+c+d^}}", "16-c-d-b-a", ""},
	{"{a:+a{b:^+b}}", "8-a", ""}, {"{a:{b:+b{c:+a!}}}", "13-b-a", ""}, {"{b:{a:{d:{c:+a+b+c+d^}}}}", "20-c-d-a-b", ""},
	{"{a:+a{b:?[+b][]^}}", "15~b-a", "b"}, {"{a:?[+a][]{b:+b!}}", "15-b~a", "a"}, {"{ab:+a?[=ba][^]}", "13-a 15-b", ""},
	{"{a:{b:+b}^}", "8-b", ""}, {"{a:+a{b:+b}^}", "10-b 11-a", ""}, {"{a:{b:+b?[!][]}+a}", "10-b 14-b 17-a", ""},
	{"{ab:+a?[^][]+b?[!][]}", "8-a 16-b-a 20-b-a", ""},

	// Points that are not reached have none.
	{"{a:.a+a}", "-", ""}, {"{a:+a^+a}", "5-a", ""}, {"{a:+a!^!}", "5-a", ""}, {"{a:+a-a-a+a+a}", "-", ""}, {"{ab:+a=ab+a+b}", "6-a", ""},
	{"{a:+a?[^+a+a][!]}", "7-a 14-a", ""}, {"{a:^{b:+b+b}}", "-", ""}, {"{a:+a{b:+b^}{b:+b+b}+a}", "10-b-a", ""},
	{"{a:*[.a+a+a^]}", "-", ""}, {"{a:+a*[^+a]}", "7-a 11-a", ""}, {"{a:{b:.b}+a}", "-", ""},

	// Loops: what their first time leaves may be held the second time, and behind them.
	{"{a:*[+a]}", "5~a 8~a", "a"}, {"{a:+a*[+a]}", "7-a 10-a", ""}, {"{a:*[+a-a]}", "-", ""}, {"{a:*[{b:+b}]}", "10-b", ""}, {"{a:*[{b:+b+a}]}", "10~a 12-b 14~a", "a"},
	{"{ab:*[+a=ba]}", "8~b 12~b", "b"}, {"{a:*[?[+a][^]]}", "7~a 11~a 14~a", "a"}, {"{ab:*[*[=ba]+a]}", "8~b 12~a 15~b~a", "ab"}, {"{a:*[{b:*[+b]}]}", "10~b 13~b", "b"},

	// Steps ~v whose v may but need not hold a value need a flag, and no others.
	{"{a:?[+a][]~a}", "-", "a"}, {"{a:+a~a}", "-", ""}, {"{a:~a}", "-", ""}, {"{a:~a+a}", "7-a", ""}, {"{a:?[+a][].a~a}", "-", ""}, {"{a:?[+a][]~a~a}", "-", "a"},
	{"{a:?[+a][]^~a}", "10~a", "a"}, {"{a:?[+a^][]~a}", "7-a", ""}, {"{a:^~a}", "-", ""}, {"{a:?[+a][-a]~a}", "-", ""}, {"{a:*[~a+a-a]}", "-", ""}, {"{a:*[~a+a]-a}", "-", "a"},
	{"{fa:?[+a+f][]~f~a}", "-", "af"}, {"{ab:?[+a+b][]~b}", "15~a", "ab"}, {"{ab:?[+a+b][]~b.a}", "17-a", "b"}, {"{a:{b:?[+b][]~b}{b:+b}}", "21-b", "b"},
	{"{ab:?[+a][]+b~b~a}", "-", "a"}, {"{abcdef:?[+f+d+b][]~b~f~d}", "-", "bdf"},
}

func TestPlansOfPrograms(t *testing.T) {
	for _, c := range plans {
		want := planned{text: c.text, flags: c.flags}
		// What the text has at a point is what PlanAt and PlansOf are to tell of it.
		for _, word := range strings.Fields(c.text) {
			i := strings.IndexAny(word, "-~")
			if word == "-" {
				continue
			}
			at := 0
			for _, digit := range word[:i] {
				at = at*10 + int(digit-'0')
			}
			want.points = append(want.points, at)
			checkPlan(t, c.p, at, word[i:], true)
		}
		checkPlanned(t, c.p, want)
		checkChapter5(t, c.p)
	}
}

func TestPointsWhosePlanIsEmpty(t *testing.T) {
	for _, c := range []struct {
		p      string
		points []int
	}{
		{"{a:}", []int{0, 3}},
		{"{ab:+a?[=ba][^]}", []int{0, 4, 6, 8}},
		// A step that says that it destroys something, or uses it, and what holds other steps.
		{"{a:+a.a-a+a~a}", []int{0, 3, 5, 7, 9, 11, 13}},
		{"{a:?[+a][]~a}", []int{0, 3, 5, 10, 12}},
		{"{a:+a?[.a][]*[.a]{b:}-a}", []int{0, 3, 5, 7, 12, 14, 17, 20, 21, 23}},
		// The values of other variables.
		{"{abc:+a+b=cb{d:}-a}", []int{0, 5, 7, 9, 12, 15, 16}},
		{"{a:{b:+a}-a}", []int{0, 3, 6, 8, 9, 11}},
		{"{a:^}", []int{0, 3}}, {"{a:!}", []int{0, 3}}, {"{a:{b:!}}", []int{0, 3, 6}},
		{"{a:.a}", []int{0, 3}}, {"{a:-a+a}", []int{0, 3}}, {"{ab:=ab}", []int{0, 4}},
	} {
		for _, at := range c.points {
			checkPlan(t, c.p, at, "", true)
		}
		checkChapter5(t, c.p)
	}
}

func TestPointsWithoutPlans(t *testing.T) {
	for _, c := range []struct {
		p      string
		points []int
	}{
		{"{a:.a+a}", []int{5, 7}}, {"{a:^}", []int{4}}, {"{a:+a^+a}", []int{6, 8}}, {"{a:+a?[^][!]}", []int{12}},
		{"{a:^{b:+b^}+a}", []int{4, 7, 9, 10, 11, 13}}, {"{ab:=ab+a}", []int{7, 9}}, {"{a:*[.a+a+a]}", []int{7, 9}},
	} {
		for _, at := range c.points {
			checkPlan(t, c.p, at, "", false)
		}
		checkChapter5(t, c.p)
	}
}

func TestCountsOfPlans(t *testing.T) {
	for _, c := range []struct {
		p           string
		sure, maybe int
	}{
		{"{a:}", 0, 0}, {"{a:+a-a}", 0, 0}, {"{a:?[+a][]~a}", 0, 0}, {"{a:+a}", 1, 0}, {"{a:*[+a]}", 0, 2}, {"{ab:+a?[=ba][].b}", 1, 1},
		{"{a:+a{b:+b!}}", 2, 0}, {"{ab:{dc:+a+b+c+d^}}", 4, 0}, {"{ab:+a?[^][]+b?[!][]}", 5, 0}, {"{a:?[+a][]{b:+b!}}", 1, 1},
		{"{a:" + strings.Repeat("+a", 38) + "}", 38, 0}, {"{abcdef:?[+a+b+c+d+e+f][]" + strings.Repeat("?[^][]", 8) + "}", 0, 54},
	} {
		sure, maybe, ok := impl.CountPlanned(c.p)
		if sure != c.sure || maybe != c.maybe || !ok {
			t.Errorf("CountPlanned(%q) = %d, %d, %v", c.p, sure, maybe, ok)
		}
		if got := impl.IsWritten(c.p); got != (c.sure+c.maybe == 0) {
			t.Errorf("IsWritten(%q) = %v", c.p, got)
		}
	}
}

func TestTextsWithoutPlans(t *testing.T) {
	for _, p := range noPrograms {
		checkNoPlans(t, p)
	}
	for b := range 256 {
		checkNoPlans(t, string([]byte{byte(b)}))
		checkChapter5(t, "{a:+a"+string([]byte{byte(b)})+"a}")
		checkChapter5(t, "{ab:+a"+string([]byte{byte(b)})+"ba}")
	}
	for _, p := range []string{
		"{a:" + strings.Repeat("+a", 38) + "~a}",
		"{a:" + strings.Repeat("*[", 1<<20) + "+a" + strings.Repeat("]", 1<<20) + "}",
		strings.Repeat("{a:", 1<<20),
		"{a:{b:{c:{d:{e:+a}}}}}",
	} {
		checkNoPlans(t, p)
	}
}

func TestBytesWithoutPlans(t *testing.T) {
	p := "{ab:+a?[=ba][].b{c:+c}^+a}"
	plans := map[int]string{0: "", 4: "", 6: "", 8: "", 14: "", 16: "", 19: "", 21: "-c", 22: "-b~a"}
	for at := -300; at <= 300; at++ {
		plan, reached := plans[at]
		checkPlan(t, p, at, plan, reached)
	}
	for _, at := range []int{-1 << 63, -1<<63 + 21, -1 << 32, 1 << 32, 1<<32 + 21, 1<<63 - 1} {
		checkPlan(t, p, at, "", false)
		checkPlan(t, "x", at, "", false)
	}
}

// TestPlansOfLongPrograms has programs as long as they may be.
func TestPlansOfLongPrograms(t *testing.T) {
	checkValid(t, checkChapter5,
		"{a:"+strings.Repeat("^", 76)+"}",
		"{a:"+strings.Repeat("+a", 38)+"}",
		"{a:"+strings.Repeat("*[", 24)+"+a"+strings.Repeat("]", 24)+"~a}",
		"{a:"+strings.Repeat("*[~a", 14)+"+a"+strings.Repeat("]", 14)+"}",
		"{abcdef:*["+"?[=fe][]?[=ed][]?[=dc][]?[=cb][]?[=ba][]+a"+"]}",
		"{abcdef:+a+b+c+d+e+f"+strings.Repeat("?[^][!", 7)+strings.Repeat("]", 7)+"}",
		"{a:*[{b:*[{c:*[{d:"+strings.Repeat("?[+d][]", 6)+"}]}]}]}",
		"{a:+a"+strings.Repeat("{b:+b}", 12)+"}",
	)
}

// TestPlansOfTextsNextToPrograms leaves out, replaces and puts in bytes of programs.
func TestPlansOfTextsNextToPrograms(t *testing.T) {
	for _, p := range programs {
		for _, text := range textsNextTo(p, "^", "~", "+a", "~a", "=ab", "a", "}", "\x00") {
			checkChapter5(t, text)
		}
	}
}

func TestPlansOfProgramsAtRandom(t *testing.T) {
	for _, p := range append(randomPrograms(t, 51, 1200), programs...) {
		checkChapter5(t, p)
	}
}

func TestPlansHoldInEachRun(t *testing.T) {
	list := append(randomPrograms(t, 53, 500), programs...)
	for _, c := range plans {
		list = append(list, c.p)
	}
	checkRuns(t, 52, list, 5, checkRunByPlans)
}

// TestPlansOfStraightProgramsAreSure has programs with one run, of which it is known what each variable holds.
func TestPlansOfStraightProgramsAreSure(t *testing.T) {
	straight := slices.DeleteFunc(randomPrograms(t, 54, 1500), func(p string) bool { return !impl.IsStraight(p) })
	for _, p := range append(straight, "{ab:+a+b=ba.a+a}", "{a:+a{b:+b^}.a}", "{a:{b:+b=ab}+a~a}") {
		said := 0
		visits, _ := impl.VisitsOf(p, "")
		for _, v := range visits {
			if step, _ := impl.StepAt(p, v.At); strings.HasPrefix(step, "-") || strings.HasPrefix(step, "~") {
				said += strings.Count(v.Holds, step[1:])
			}
		}
		events, _ := impl.EventsOf(p, "")
		destroyed := strings.Count(strings.TrimSuffix(" "+events, " -"), " -")
		if sure, maybe, ok := impl.CountPlanned(p); sure != destroyed-said || maybe != 0 || !ok {
			t.Errorf("CountPlanned(%q) = %d, %d, %v, but %q has %d unsaid", p, sure, maybe, ok, events, destroyed-said)
		}
		if flags, ok := impl.FlagsOf(p); flags != "" || !ok {
			t.Errorf("FlagsOf(%q) = %q, %v", p, flags, ok)
		}
	}
}

func TestListsOfChapter5ShareNoMemory(t *testing.T) {
	p := "{a:+a+a{b:+b+b}}"
	first, _ := impl.PlansOf(p)
	want := slices.Clone(first)
	first = first[:cap(first)]
	for i := range first {
		first[i] = -7
	}
	if again, ok := impl.PlansOf(p); !slices.Equal(again, want) || !ok {
		t.Errorf("PlansOf = %v, then %v", want, again)
	}
}
