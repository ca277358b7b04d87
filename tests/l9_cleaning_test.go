package tests

import (
	"slices"
	"strings"
	"testing"

	"loop.example/endsoflife/impl"
)

// cleanings are programs and what chapter 9 says of them.
var cleanings = []struct {
	p       string
	cleaned cleaned
}{
	// No exits.
	{"{a:}", cleaned{nil, nil, nil, "-"}}, {"{fedcba:}", cleaned{nil, nil, nil, "-"}}, {"{a:+a}", cleaned{nil, nil, nil, "-"}},
	{"{a:+a+a{b:+b}?[+a][]*[+a]}", cleaned{nil, nil, nil, "-"}},

	// Ordinary ones: each of two kinds, also of those whose cleanups are the same.
	{"{a:+a^}", cleaned{[]int{5}, []string{"-a"}, []string{"-a"}, "-a"}},
	{"{a:+a!}", cleaned{[]int{5}, []string{"-a"}, []string{"-a"}, "-a"}},
	{"{ab:+a?[^][]+b?[!][]}", cleaned{[]int{8, 16}, []string{"-a", "-b-a"}, []string{"-a", "-b-a"}, "-a -b>0"}},
	{"{abc:+a+b?[+c^][!]}", cleaned{[]int{13, 16}, []string{"-c-b-a", "-b-a"}, []string{"-a", "-b-a", "-c-b-a"}, "-a -b>0 -c>1"}},
	{"{a:+a?[^][!]}", cleaned{[]int{7, 10}, []string{"-a", "-a"}, []string{"-a"}, "-a"}},
	{"{ab:+a+b?[?[^][^]][!]}", cleaned{[]int{12, 15, 19}, []string{"-b-a", "-b-a", "-b-a"}, []string{"-a", "-b-a"}, "-a -b>0"}},
	{"{ab:?[+a][]?[+b][]^}", cleaned{[]int{18}, []string{"~b~a"}, []string{"~a", "~b~a"}, "~a ~b>0"}},
	{"{abcdef:+a+b+c+d+e+f^}", cleaned{[]int{20}, []string{"-f-e-d-c-b-a"}, []string{"-a", "-b-a", "-c-b-a", "-d-c-b-a", "-e-d-c-b-a", "-f-e-d-c-b-a"}, "-a -b>0 -c>1 -d>2 -e>3 -f>4"}},

	// Cleanups of nothing, alone and beside others.
	{"{a:^}", cleaned{[]int{3}, []string{""}, nil, "-"}}, {"{a:!}", cleaned{[]int{3}, []string{""}, nil, "-"}}, {"{a:+a-a!}", cleaned{[]int{7}, []string{""}, nil, "-"}},
	{"{a:{b:{c:?[^][!]}}}", cleaned{[]int{11, 14}, []string{"", ""}, nil, "-"}},
	{"{a:+a{b:+b}~a^}", cleaned{[]int{13}, []string{""}, nil, "-"}},
	{"{a:?[^][]+a!}", cleaned{[]int{5, 11}, []string{"", "-a"}, []string{"-a"}, "-a"}},
	{"{a:+a?[^][]-a!}", cleaned{[]int{7, 13}, []string{"-a", ""}, []string{"-a"}, "-a"}},
	{"{a:*[+a^]^}", cleaned{[]int{7, 9}, []string{"-a", ""}, []string{"-a"}, "-a"}},

	// Exits that are not reached: behind others, and behind faults.
	{"{a:^+a^}", cleaned{[]int{3}, []string{""}, nil, "-"}}, {"{a:+a!^}", cleaned{[]int{5}, []string{"-a"}, []string{"-a"}, "-a"}},
	{"{a:+a?[^][!]!}", cleaned{[]int{7, 10}, []string{"-a", "-a"}, []string{"-a"}, "-a"}},
	{"{a:+a?[^+a!][]{b:+b^+b!}!}", cleaned{[]int{7, 19}, []string{"-a", "-b-a"}, []string{"-a", "-b-a"}, "-a -b>0"}},
	{"{a:.a^}", cleaned{nil, nil, nil, "-"}}, {"{a:-a!}", cleaned{nil, nil, nil, "-"}}, {"{ab:+a=ab^}", cleaned{nil, nil, nil, "-"}}, {"{a:+a{b:.b^}^}", cleaned{nil, nil, nil, "-"}},
	{"{a:*[.a+a^]+a!}", cleaned{[]int{13}, []string{"-a"}, []string{"-a"}, "-a"}},
	{"{a:{b:^}{c:!}}", cleaned{[]int{6}, []string{""}, nil, "-"}},

	// Ends that are alike but for a flag.
	{"{ab:+b?[?[+a][]^][+a!]}", cleaned{[]int{15, 20}, []string{"-b~a", "-b-a"}, []string{"-a", "~a", "-b-a", "-b~a"}, "-a ~a -b>0 -b>1"}},
	{"{ab:+a?[?[+b][]^][+b!]}", cleaned{[]int{15, 20}, []string{"~b-a", "-b-a"}, []string{"-a", "-b-a", "~b-a"}, "-a -b>0 ~b>0"}},
	{"{a:?[+a][]?[^][].a!}", cleaned{[]int{12, 18}, []string{"~a", "-a"}, []string{"-a", "~a"}, "-a ~a"}},
	{"{abc:+a+c?[+b][]?[^][].b!}", cleaned{[]int{18, 24}, []string{"-c~b-a", "-c-b-a"}, []string{"-a", "-b-a", "~b-a", "-c-b-a", "-c~b-a"}, "-a -b>0 ~b>0 -c>1 -c>2"}},
	// The flag comes ahead of the variable: ~a is behind -b, and ~b behind -c.
	{"{abc:+b+c?[^][]-c?[!][]-b?[+a][]^}", cleaned{[]int{11, 19, 32}, []string{"-c-b", "-b", "~a"}, []string{"-b", "~a", "-c-b"}, "-b ~a -c>0"}},

	// Ends of which one is not that of the other one, although it begins the same or stands within it.
	{"{ab:+a+b?[^][]-a!}", cleaned{[]int{10, 16}, []string{"-b-a", "-b"}, []string{"-a", "-b", "-b-a"}, "-a -b -b>0"}},
	{"{abc:+a+b+c?[^][]-b!}", cleaned{[]int{13, 19}, []string{"-c-b-a", "-c-a"}, []string{"-a", "-b-a", "-c-a", "-c-b-a"}, "-a -b>0 -c>0 -c>1"}},
	{"{abc:+a+b+c?[^][]-a-c!}", cleaned{[]int{13, 21}, []string{"-c-b-a", "-b"}, []string{"-a", "-b", "-b-a", "-c-b-a"}, "-a -b -b>0 -c>2"}},

	// Orders of declaring, and scopes around: all of them are cleaned up, from the inside to the outside.
	{"{ba:+a+b?[^][]-b!}", cleaned{[]int{10, 16}, []string{"-a-b", "-a"}, []string{"-a", "-b", "-a-b"}, "-a -b -a>1"}},
	{"{a:+a{b:+b?[^][]}!}", cleaned{[]int{12, 17}, []string{"-b-a", "-a"}, []string{"-a", "-b-a"}, "-a -b>0"}},
	{"{a:+a{b:+b?[^][]}{b:+b!}}", cleaned{[]int{12, 22}, []string{"-b-a", "-b-a"}, []string{"-a", "-b-a"}, "-a -b>0"}},
	{"{b:+b{a:+a?[^][]}{c:+c!}}", cleaned{[]int{12, 22}, []string{"-a-b", "-c-b"}, []string{"-b", "-a-b", "-c-b"}, "-b -a>0 -c>0"}},
	{"{ab:{dc:+a+b+c+d?[^][]}!}", cleaned{[]int{18, 23}, []string{"-c-d-b-a", "-b-a"}, []string{"-a", "-b-a", "-d-b-a", "-c-d-b-a"}, "-a -b>0 -d>1 -c>2"}},
	{"{a:*[?[+a][^]]!}", cleaned{[]int{11, 14}, []string{"~a", "~a"}, []string{"~a"}, "~a"}},

	// Indices of more than one digit.
	{"{abcdef:+a+b+c+d+e+f?[^][]-a?[!][]-b?[^][]-c?[!][]-d?[^][]-e?[!][]}", cleaned{
		[]int{22, 30, 38, 46, 54, 62},
		[]string{"-f-e-d-c-b-a", "-f-e-d-c-b", "-f-e-d-c", "-f-e-d", "-f-e", "-f"},
		[]string{
			"-a", "-b", "-c", "-d", "-e", "-f", "-b-a", "-c-b", "-d-c", "-e-d", "-f-e", "-c-b-a", "-d-c-b", "-e-d-c", "-f-e-d",
			"-d-c-b-a", "-e-d-c-b", "-f-e-d-c", "-e-d-c-b-a", "-f-e-d-c-b", "-f-e-d-c-b-a",
		},
		"-a -b -c -d -e -f -b>0 -c>1 -d>2 -e>3 -f>4 -c>6 -d>7 -e>8 -f>9 -d>11 -e>12 -f>13 -e>15 -f>16 -f>18",
	}},
}

func TestCleanupsOfPrograms(t *testing.T) {
	for _, c := range cleanings {
		checkCleaned(t, c.p, c.cleaned)
		for at := -2; at <= len(c.p)+2; at++ {
			checkExitAt(t, c.p, c.cleaned, at)
		}
		checkChapter9(t, c.p)
	}
}

func TestCountsOfCleanups(t *testing.T) {
	for _, c := range []struct {
		p             string
		alone, shared int
	}{
		{"{a:}", 0, 0}, {"{a:+a}", 0, 0}, {"{a:^}", 0, 0}, {"{a:+a^!}", 1, 1}, {"{ab:+a?[^][]+b?[!][]}", 3, 2}, {"{abc:+a+b?[+c^][!]}", 5, 3},
		{"{ab:+b?[?[+a][]^][+a!]}", 4, 4}, {"{ab:+a?[?[+b][]^][+b!]}", 4, 3}, {"{a:+a^+a!}", 1, 1}, {"{a:.a^}", 0, 0},
		{"{abcdef:+a+b+c+d+e+f" + strings.Repeat("?[^][", 8) + "!" + strings.Repeat("]", 8) + "}", 54, 6},
		{"{abcdef:+a+b+c+d+e+f" + strings.Repeat("?[^][!", 7) + strings.Repeat("]", 7) + "}", 12, 6},
		{"{abcdef:+a+b+c+d+e+f?[^][]-a?[!][]-b?[^][]-c?[!][]-d?[^][]-e?[!][]}", 21, 21},
	} {
		if alone, shared := impl.CountAlone(c.p), impl.CountShared(c.p); alone != c.alone || shared != c.shared {
			t.Errorf("%q: %d alone, %d shared, not %d, %d", c.p, alone, shared, c.alone, c.shared)
		}
		checkChapter9(t, c.p)
	}
}

func TestEntriesOfCleanups(t *testing.T) {
	for _, c := range []struct {
		p         string
		at, entry int
	}{
		{"{abc:+a+b?[+c^][!]}", 13, 2}, {"{abc:+a+b?[+c^][!]}", 16, 1}, {"{ab:+a+b?[^][]-a!}", 10, 2}, {"{ab:+a+b?[^][]-a!}", 16, 1},
		{"{ab:+b?[?[+a][]^][+a!]}", 15, 3}, {"{ab:+b?[?[+a][]^][+a!]}", 20, 2}, {"{a:?[+a][]?[^][].a!}", 12, 1}, {"{a:?[+a][]?[^][].a!}", 18, 0},
		{"{abcdef:+a+b+c+d+e+f?[^][]-a?[!][]-b?[^][]-c?[!][]-d?[^][]-e?[!][]}", 22, 20}, {"{abcdef:+a+b+c+d+e+f?[^][]-a?[!][]-b?[^][]-c?[!][]-d?[^][]-e?[!][]}", 54, 10},
		// Cleanups of nothing, exits that are not reached, other steps and points, and bytes outside.
		{"{a:^+a^}", 3, -1}, {"{a:^+a^}", 6, -1}, {"{a:?[^][]+a!}", 5, -1}, {"{a:?[^][]+a!}", 11, 0}, {"{a:+a^}", 0, -1}, {"{a:+a^}", 3, -1}, {"{a:+a^}", 4, -1}, {"{a:+a^}", 6, -1}, {"{a:+a^}", 7, -1}, {"{a:+a^}", -1, -1},
		// No programs.
		{"", 0, -1}, {"x", 0, -1}, {"^", 0, -1}, {"{a:+a^", 5, -1}, {"{a:+b^}", 5, -1},
	} {
		if got := impl.EntryOf(c.p, c.at); got != c.entry {
			t.Errorf("EntryOf(%q, %d) = %d, not %d", c.p, c.at, got, c.entry)
		}
	}
}

func TestCommonTails(t *testing.T) {
	for _, c := range []struct {
		p        string
		a, b     int
		end      string
		areExits bool
	}{
		// An exit with itself.
		{"{a:+a^}", 5, 5, "-a", true}, {"{a:^}", 3, 3, "", true}, {"{ab:+a?[^][]+b?[!][]}", 16, 16, "-b-a", true}, {"{abcdef:+a+b+c+d+e+f^}", 20, 20, "-f-e-d-c-b-a", true}, {"{ab:?[+a][]?[+b][]^}", 18, 18, "~b~a", true},

		// The whole of one, or of both.
		{"{ab:+a?[^][]+b?[!][]}", 8, 16, "-a", true}, {"{abc:+a+b?[+c^][!]}", 13, 16, "-b-a", true}, {"{ab:+a+b?[^][!]}", 10, 13, "-b-a", true},

		// A part of both: one step, two steps, and as many or not as many are left out of each.
		{"{abc:+a+b+c?[^][]-b!}", 13, 19, "-a", true}, {"{b:+b{a:+a?[^][]}{c:+c!}}", 12, 22, "-b", true}, {"{ab:+a?[?[+b][]^][+b!]}", 15, 20, "-a", true},
		{"{abcd:+a+b?[+c^][+d!]}", 14, 19, "-b-a", true}, {"{abcde:+a+b?[+c+d^][+e!]}", 17, 22, "-b-a", true}, {"{abcdef:+a+b+c?[+d+f^][+e!]}", 20, 25, "-c-b-a", true}, {"{abc:+a+c?[+b][]?[^][].b!}", 18, 24, "-a", true},

		// Nothing: ends that are alike but for a flag, also where what is ahead of it is the same.
		{"{a:?[+a][]?[^][].a!}", 12, 18, "", true}, {"{ab:+b?[?[+a][]^][+a!]}", 15, 20, "", true}, {"{ab:+a+b?[^][]-a!}", 10, 16, "", true}, {"{abc:+a+b+c?[^][]-a-c!}", 13, 21, "", true},
		{"{a:?[^][]+a!}", 5, 11, "", true}, {"{a:{b:{c:?[^][!]}}}", 11, 14, "", true},

		// One is no exit, or both are none.
		{"{a:+a^}", 5, 3, "", false}, {"{a:+a^}", 5, 6, "", false}, {"{a:+a^}", 0, 5, "", false}, {"{a:+a^}", 5, -1, "", false}, {"{a:+a^}", 5, 7, "", false}, {"{a:+a^}", 3, 3, "", false}, {"{a:+a^}", 4, 4, "", false}, {"{a:+a^}", -1, -1, "", false},
		{"{a:+a!^}", 5, 6, "", false}, {"{a:+a!^}", 6, 6, "", false}, {"{a:+a?[^+a!][]!}", 7, 10, "", false}, {"{a:+a?[^+a!][]!}", 7, 14, "-a", true},
		{"{a:.a^}", 5, 5, "", false}, {"{a:+a}", 3, 5, "", false},

		// No programs.
		{"", 0, 0, "", false}, {"^", 0, 0, "", false}, {"{a:+a^", 5, 5, "", false}, {"{a:+b^}", 5, 5, "", false}, {"{a:+a^^}}", 5, 5, "", false},
	} {
		checkCommon(t, c.p, c.a, c.b, c.end, c.areExits)
	}
}

func TestTextsWithoutCleanups(t *testing.T) {
	for _, p := range noPrograms {
		checkNoCleaning(t, p)
	}
	for b := range 256 {
		text := string([]byte{byte(b)})
		checkNoCleaning(t, text)
		checkChapter9(t, "{a:+a"+text+"}")
		checkChapter9(t, "{ab:+a?["+text+"][!]^}")
	}
	for _, p := range []string{
		"{a:" + strings.Repeat("^", 77) + "}",
		"{a:" + strings.Repeat("+a", 38) + "^}",
		"{a:" + strings.Repeat("*[", 1<<20) + "^" + strings.Repeat("]", 1<<20) + "}",
		strings.Repeat("{a:", 1<<20) + "^",
		strings.Repeat("^", 1<<20),
		"{a:{b:{c:{d:{e:+a^}}}}}",
	} {
		checkNoCleaning(t, p)
	}
}

func TestBytesWithoutExits(t *testing.T) {
	p := "{ab:+a?[^][]{c:+c?[!+c!][]}+b^!}"
	c := cleaned{exits: []int{8, 19, 29}, cleanups: []string{"-a", "-c-a", "-b-a"}, tails: []string{"-a", "-b-a", "-c-a"}, text: "-a -b>0 -c>0"}
	checkCleaned(t, p, c)
	for at := -300; at <= 300; at++ {
		checkExitAt(t, p, c, at)
	}
	for _, at := range []int{-1 << 63, -1<<63 + 8, -1 << 32, 1 << 32, 1<<32 + 8, 1<<32 + 29, 1<<63 - 1} {
		checkExitAt(t, p, c, at)
		checkExitAt(t, "x", cleaned{}, at)
	}
}

// TestCleanupsOfLongPrograms has programs as long as they may be.
func TestCleanupsOfLongPrograms(t *testing.T) {
	checkValid(t, checkChapter9,
		"{a:"+strings.Repeat("^", 76)+"}",
		"{a:"+strings.Repeat("+a", 37)+".a}",
		"{a:+a"+strings.Repeat("?[^][]", 12)+"!}",
		"{a:"+strings.Repeat("*[", 24)+"+a^"+strings.Repeat("]", 24)+"!}",
		"{abcdef:+a+b+c+d+e+f"+strings.Repeat("?[^][!", 7)+strings.Repeat("]", 7)+"}",
		"{abcdef:?[+a+b+c+d+e+f][]"+strings.Repeat("?[^][]", 9)+"}",
		"{abcdef:?[^][+f?[^][+e?[^][+d?[^][+c?[^][+b?[^][+a!]]]]]]}",
		"{a:+a{b:+b?[^][]}{c:+c?[^][]}{d:+d?[!][]}{e:+e?[^][]}{f:+f!}}",
		"{ab:+a{cd:+c?[+d][]?[^][]{ef:?[+e][]+f?[!][]-f?[^][]}}?[+b][]?[^][].b!}",
		"{abcdef:*[?[^][]?[=fe][]?[=ed][]?[=dc][]?[=cb][]?[=ba][]+a]!}",
	)
}

// TestCleanupsOfTextsNextToPrograms leaves out, replaces and puts in bytes of programs.
func TestCleanupsOfTextsNextToPrograms(t *testing.T) {
	list := programs
	for _, c := range cleanings {
		list = append(list[:len(list):len(list)], c.p)
	}
	for _, p := range list {
		for _, text := range textsNextTo(p, "^", "~a", "a") {
			checkChapter9(t, text)
		}
	}
}

func TestCleanupsOfProgramsAtRandom(t *testing.T) {
	for _, p := range append(randomPrograms(t, 91, 300), programs...) {
		checkChapter9(t, p)
	}
	exits, shared := 0, 0
	for _, p := range programsWithExits(t, 92, 500) {
		checkChapter9(t, p)
		list, _ := impl.ExitsOf(p)
		exits += len(list)
		// Steps that are shared beside steps that are not.
		if count := impl.CountShared(p); count > 2 && count < impl.CountAlone(p) {
			shared++
		}
	}
	if exits < 1000 || shared < 100 {
		t.Errorf("%d exits, %d programs with steps that are shared beside others", exits, shared)
	}
}

func TestCleanupsOfRuns(t *testing.T) {
	list := programsWithExits(t, 95, 250)
	for _, c := range cleanings {
		list = append(list, c.p)
	}
	checkRuns(t, 94, list, 5, checkRunCleansUp)
}

// TestCleanupsAreToldAgain calls functions many times, as what is returned must not depend on the order of a map.
func TestCleanupsAreToldAgain(t *testing.T) {
	for range 50 {
		for _, c := range cleanings {
			checkCleaned(t, c.p, c.cleaned)
		}
	}
}

func TestListsOfChapter9ShareNoMemory(t *testing.T) {
	p := "{abc:+a+b?[+c^][!]}"
	exits, _ := impl.ExitsOf(p)
	tails, _ := impl.TailsOf(p)
	wantExits, wantTails := slices.Clone(exits), slices.Clone(tails)
	exits, tails = exits[:cap(exits)], tails[:cap(tails)]
	for i := range exits {
		exits[i] = -7
	}
	for i := range tails {
		tails[i] = "x"
	}
	if again, ok := impl.ExitsOf(p); !slices.Equal(again, wantExits) || !ok {
		t.Errorf("ExitsOf = %v, then %v", wantExits, again)
	}
	if again, ok := impl.TailsOf(p); !slices.Equal(again, wantTails) || !ok {
		t.Errorf("TailsOf = %q, then %q", wantTails, again)
	}
}
