package tests

import (
	"math/rand"
	"slices"
	"strings"
	"testing"

	"loop.example/endsoflife/impl"
)

// writings are programs, what they are written out, and tidied up; the empty string if they stay as they are.
var writings = []struct {
	p, out, tidy string
}{
	// Nothing is destroyed unsaid.
	{"{a:}", "", ""}, {"{fedcba:}", "", ""}, {"{a:^}", "", ""}, {"{a:?[][!]*[]{b:}}", "", ""}, {"{a:+a-a}", "", ""}, {"{ab:+a=ba.b-b^}", "", ""},

	// Ends of scopes, from the last variable to the first one.
	{"{ab:+a?[=ba][]}", "{ab:+a?[=ba][]~b~a}", ""}, {"{ab:+a?[=ba][].b}", "{ab:+a?[=ba][].b-b~a}", ""}, {"{ab:+a+b.a}", "{ab:+a+b.a-b-a}", ""}, {"{ba:+a+b.a}", "{ba:+a+b.a-a-b}", ""},
	{"{a:+a{cb:+b+c}}", "{a:+a{cb:+b+c-b-c}-a}", ""}, {"{a:{b:+b}{b:?[+b][]}}", "{a:{b:+b-b}{b:?[+b][]~b}}", ""}, {"{a:{b:+a}}", "{a:{b:+a}-a}", ""}, {"{a:{b:{c:{d:+a+b+c+d}}}}", "{a:{b:{c:{d:+a+b+c+d-d}-c}-b}-a}", ""},

	// Values that another one takes the place of, ahead of the step.
	{"{a:+a+a}", "{a:+a-a+a-a}", ""}, {"{a:?[+a][]+a}", "{a:?[+a][]~a+a-a}", ""}, {"{ab:+a+b=ab}", "{ab:+a+b-a=ab-a}", ""}, {"{ab:?[+a][]+b=ab.a}", "{ab:?[+a][]+b~a=ab.a-a}", ""}, {"{ab:+a=ab}", "{ab:+a-a=ab}", ""},

	// Returns, from the inside to the outside.
	{"{a:+a{b:+b!}}", "{a:+a{b:+b-b-a!}}", ""}, {"{a:?[+a][]{cb:+c+b^}}", "{a:?[+a][]{cb:+c+b-b-c~a^}}", ""}, {"{ab:+a?[^][]+b?[!][]}", "{ab:+a?[-a^][]+b?[-b-a!][]-b-a}", ""},

	// Within branches and loops.
	{"{a:*[+a]}", "{a:*[~a+a]~a}", ""}, {"{a:+a*[^]}", "{a:+a*[-a^]-a}", ""}, {"{a:+a*[+a]}", "{a:+a*[-a+a]-a}", ""}, {"{a:+a?[+a][.a+a]}", "{a:+a?[-a+a][.a-a+a]-a}", ""},
	{"{ab:*[*[=ba]+a]}", "{ab:*[*[~b=ba]~a+a]~b~a}", ""}, {"{a:*[?[{b:+b^}][+a]]}", "{a:*[?[{b:+b-b~a^}][~a+a]]~a}", ""}, {"{a:?[?[+a][]][*[+a]]}", "{a:?[?[+a][]][*[~a+a]]~a}", ""}, {"{a:*[{b:+b+a}]}", "{a:*[{b:+b~a+a-b}]~a}", ""},

	// Steps ~v of which v must hold a value, may not, or may but need not.
	{"{a:+a~a}", "{a:+a-a}", "{a:+a-a}"}, {"{a:~a}", "{a:}", "{a:}"}, {"{a:?[+a][]~a}", "", ""}, {"{a:+a~a~a}", "{a:+a-a}", "{a:+a-a}"}, {"{a:?[+a][]~a~a}", "{a:?[+a][]~a}", "{a:?[+a][]~a}"},
	{"{a:~a~a~a+a~a~a~a}", "{a:+a-a}", "{a:+a-a}"}, {"{a:?[+a][].a~a}", "{a:?[+a][].a-a}", "{a:?[+a][].a-a}"}, {"{a:?[~a][*[~a]]{b:~b~a}}", "{a:?[][*[]]{b:}}", "{a:?[][*[]]{b:}}"},
	{"{ab:+a=ba~a~b}", "{ab:+a=ba-b}", "{ab:+a=ba-b}"}, {"{ab:+a?[=ba][]~b~a}", "", ""}, {"{ab:+a~b}", "{ab:+a-a}", "{ab:+a}"}, {"{ab:?[+a+b][+a]~a~b}", "{ab:?[+a+b][+a]-a~b}", "{ab:?[+a+b][+a]-a~b}"},
	{"{a:+a*[~a]}", "{a:+a*[~a]~a}", ""}, {"{a:*[~a+a]}", "{a:*[~a+a]~a}", ""}, {"{a:*[+a~a]}", "{a:*[+a-a]}", "{a:*[+a-a]}"}, {"{a:+a~a+a}", "{a:+a-a+a-a}", "{a:+a-a+a}"}, {"{a:?[+a^][]~a}", "{a:?[+a-a^][]}", "{a:?[+a^][]}"},
	// One that is destroyed for sure stays as it is, whatever is known.
	{"{a:-a}", "", ""}, {"{a:?[+a][]-a}", "", ""}, {"{a:+a-a-a~a}", "", ""},

	// Steps that are not reached stay as they are, those ~v too, and nothing is put ahead of them.
	{"{a:^~a}", "", ""}, {"{a:+a^~a}", "{a:+a-a^~a}", ""}, {"{a:+a!+a+a~a^}", "{a:+a-a!+a+a~a^}", ""}, {"{a:.a~a+a+a}", "", ""}, {"{ab:=ab~a~b+a{c:+c~c}}", "", ""}, {"{a:+a?[^][!]~a+a}", "{a:+a?[-a^][-a!]~a+a}", ""},
	{"{a:~a?[^~a][+a]~a}", "{a:?[^~a][+a]-a}", "{a:?[^~a][+a]-a}"}, {"{a:*[.a~a]}", "", ""}, {"{a:{b:^~b}~a}", "", ""}, {"{a:+a*[^~a]~a}", "{a:+a*[-a^~a]-a}", "{a:+a*[^~a]-a}"}, {"{a:+a{b:+b^+b}}", "{a:+a{b:+b-b-a^+b}}", ""},

	// What is known is that of the program itself: also where what it becomes tells no less.
	{"{a:+a~a+a~a}", "{a:+a-a+a-a}", "{a:+a-a+a-a}"}, {"{ab:+a+b~a=ab~b}", "{ab:+a+b-a=ab-a}", "{ab:+a+b-a=ab}"}, {"{a:*[?[+a][~a]]}", "{a:*[?[~a+a][~a]]~a}", ""},
}

func TestProgramsWrittenOut(t *testing.T) {
	for _, c := range writings {
		out, tidy := c.out, c.tidy
		if out == "" {
			out = c.p
		}
		if tidy == "" {
			tidy = c.p
		}
		checkOut(t, c.p, out, tidy)
		checkStepOut(t, c.p, 0, out, true)
		checkChapter6(t, c.p)
	}
}

func TestStepsWrittenOut(t *testing.T) {
	for _, c := range []struct {
		p     string
		steps map[int]string
	}{
		{"{a:+a*[+a^]}", map[int]string{0: "{a:+a*[-a+a-a^]-a}", 3: "+a", 5: "*[-a+a-a^]", 7: "-a+a", 9: "-a^"}},
		{"{a:+a+a}", map[int]string{0: "{a:+a-a+a-a}", 3: "+a", 5: "-a+a"}},
		{"{ab:+a+b=ab}", map[int]string{0: "{ab:+a+b-a=ab-a}", 4: "+a", 6: "+b", 8: "-a=ab"}},
		{"{ab:+a?[^][]+b?[!][]}", map[int]string{0: "{ab:+a?[-a^][]+b?[-b-a!][]-b-a}", 4: "+a", 6: "?[-a^][]", 8: "-a^", 12: "+b", 14: "?[-b-a!][]", 16: "-b-a!"}},
		// Of a scope within another one its own end alone, and what stands ahead of a step that holds others is not its.
		{"{a:+a{b:+b}}", map[int]string{0: "{a:+a{b:+b-b}-a}", 3: "+a", 5: "{b:+b-b}", 8: "+b"}},
		{"{a:+a?[+a][{b:+b+a}]}", map[int]string{0: "{a:+a?[-a+a][{b:+b-a+a-b}]-a}", 3: "+a", 5: "?[-a+a][{b:+b-a+a-b}]", 7: "-a+a", 11: "{b:+b-a+a-b}", 14: "+b", 16: "-a+a"}},
		// What is left of a step may be nothing.
		{"{a:~a+a~a}", map[int]string{0: "{a:+a-a}", 3: "", 5: "+a", 7: "-a"}},
		{"{a:?[~a+a][]~a^~a}", map[int]string{0: "{a:?[+a][]~a^~a}", 3: "?[+a][]", 5: "", 7: "+a", 12: "~a", 14: "^", 15: "~a"}},
	} {
		for at := -300; at <= 300; at++ {
			text, begins := c.steps[at]
			checkStepOut(t, c.p, at, text, begins)
		}
		for _, at := range []int{-1 << 63, -1<<63 + 3, -1 << 32, 1 << 32, 1<<32 + 3, 1<<63 - 1} {
			checkStepOut(t, c.p, at, "", false)
			checkStepOut(t, "x", at, "", false)
		}
	}
}

// TestProgramsThatGetTooLong has programs that get just as long as they may be, and longer.
func TestProgramsThatGetTooLong(t *testing.T) {
	for _, c := range []struct {
		p, out string
	}{
		{"{a:" + strings.Repeat("+a", 19) + "}", "{a:+a" + strings.Repeat("-a+a", 18) + "-a}"},
		{"{a:" + strings.Repeat("+a", 19) + "^}", "{a:+a" + strings.Repeat("-a+a", 18) + "-a^}"},
		{"{a:" + strings.Repeat("+a", 19) + "^!}", "{a:+a" + strings.Repeat("-a+a", 18) + "-a^!}"},
		{"{a:" + strings.Repeat("+a", 38) + "}", "{a:+a" + strings.Repeat("-a+a", 37) + "-a}"},
		{"{a:^" + strings.Repeat("+a", 37) + "}", "{a:^" + strings.Repeat("+a", 37) + "}"},
		{"{a:" + strings.Repeat("~a", 38) + "}", "{a:}"},
		{"{a:" + strings.Repeat("~a", 37) + "+a}", "{a:+a-a}"},
		{"{a:" + strings.Repeat(".a", 38) + "}", "{a:" + strings.Repeat(".a", 38) + "}"},
		{"{a:+a" + strings.Repeat(".a", 36) + "^}", "{a:+a" + strings.Repeat(".a", 36) + "-a^}"},
		{"{a:+a" + strings.Repeat(".a", 36) + "}", "{a:+a" + strings.Repeat(".a", 36) + "-a}"},
		{"{a:+a" + strings.Repeat(".a", 37) + "}", "{a:+a" + strings.Repeat(".a", 37) + "-a}"},
		// Longer than the limit as it is but for what is left out.
		{"{a:~a+a" + strings.Repeat(".a", 36) + "}", "{a:+a" + strings.Repeat(".a", 36) + "-a}"},
		{"{abcdef:+a+b+c+d+e+f" + strings.Repeat("?[^][]", 9) + "}", "{abcdef:+a+b+c+d+e+f" + strings.Repeat("?[-f-e-d-c-b-a^][]", 9) + "-f-e-d-c-b-a}"},
	} {
		want := c.out
		if len(want) > 80 {
			want = ""
		}
		if got, ok := impl.WriteOut(c.p); got != want || ok != (want != "") {
			t.Errorf("WriteOut(%q) = %q, %v, not %q", c.p, got, ok, want)
		}
		if got := impl.LengthOut(c.p); got != len(c.out) {
			t.Errorf("LengthOut(%q) = %d, not %d", c.p, got, len(c.out))
		}
		checkStepOut(t, c.p, 0, c.out, true)
		checkChapter6(t, c.p)
	}
}

// same stands for the choices of two programs that are alike.
const same = "same"

// pairs are two programs and the first choices with which they are not alike.
var pairs = []struct {
	p, q, choices string
}{
	{"{a:}", "{a:}", same}, {"{a:+a}", "{b:+b}", same}, {"{a:+a}", "{ab:+b}", same}, {"{a:+a}", "{a:+a-a}", same}, {"{a:*[+a]}", "{a:*[+a-a]}", same}, {"{a:+a}", "{a:{b:+b}}", same},
	{"{ab:+a+b}", "{ba:+b+a}", same}, {"{ab:+a?[=ba][]}", "{ab:+a?[=ba][]~b~a}", same}, {"{a:+a*[+a]}", "{a:+a-a*[+a]}", same}, {"{a:?[^][^]}", "{a:?[][]^}", same}, {"{a:+a^}", "{a:+a^+a.a}", same},

	// Other events: others of the same number, more of them or fewer, none.
	{"{a:}", "{a:+a}", ""}, {"{a:+a}", "{a:}", ""}, {"{a:+a}", "{a:+a.a}", ""}, {"{a:+a+a}", "{a:+a}", ""}, {"{ab:+a+b}", "{ba:+a+b}", ""}, {"{ab:+a+b.a}", "{ab:+a+b.b}", ""}, {"{ab:+a+b-a-b}", "{ab:+a+b-b-a}", ""},
	{"{a:+a.a-a}", "{a:+a-a+a}", ""}, {"{a:+a.a}", "{a:+a.a+a}", ""}, {"{ab:+a+b}", "{ab:+a.a}", ""}, {"{ab:+a.a.b}", "{ab:+a-a.b}", ""}, {"{a:?[+a][]}", "{a:?[][]}", "l"}, {"{a:?[][+a]}", "{a:?[][]}", "r"}, {"{a:*[+a]}", "{a:*[+a.a]}", "me"}, {"{a:+a*[+a]}", "{a:+a-a*[.a]}", "m"}, {"{a:+a*[+a]}", "{a:+a*[.a+a]}", "me"},
	{"{a:*[?[+a][]]}", "{a:*[?[+a][^]]}", "mr"}, {"{a:*[?[+a][]]}", "{a:*[?[+a][~a+a]]}", "mre"}, {"{a:*[?[+a][]]}", "{a:*[?[+a][-a+a]]}", "mr"},

	// Another exit, and nothing else.
	{"{a:^}", "{a:}", ""}, {"{a:!}", "{a:}", ""}, {"{a:^}", "{a:!}", ""}, {"{a:+a^}", "{a:+a}", ""}, {"{a:+a-a!}", "{a:+a^}", ""}, {"{a:.a}", "{a:}", ""}, {"{a:.a}", "{a:^}", ""}, {"{ab:+a-a=ab}", "{a:+a}", ""}, {"{a:?[^][!]}", "{a:?[^][^]}", "r"}, {"{a:*[^]}", "{a:*[!]}", "m"},
	// Faults elsewhere are no other exit.
	{"{a:.a}", "{a:-a}", same}, {"{a:.a}", "{abc:=bc}", same}, {"{a:?[.a][]}", "{a:?[{b:.b}][]}", same}, {"{a:+a-a.a}", "{a:+a~a~a-a^}", same},

	// Choices of one program alone.
	{"{a:}", "{a:*[]}", ""}, {"{a:*[]}", "{a:}", ""}, {"{a:}", "{a:?[][]}", ""}, {"{a:?[][]}", "{a:*[]}", "l"}, {"{a:*[]}", "{a:?[][]}", "e"}, {"{a:?[][]}", "{a:?[?[][]][]}", "l"}, {"{a:?[?[][]][]}", "{a:?[][]}", "l"},
	{"{a:?[][]}", "{a:?[][?[][]]}", "r"}, {"{a:?[][?[][]]}", "{a:?[][]}", "r"}, {"{a:?[?[][]][?[][]]}", "{a:?[][]}", "l"}, {"{a:?[?[][]][?[][]]}", "{a:?[*[]][*[]]}", "ll"}, {"{a:?[*[]][*[]]}", "{a:?[?[][]][?[][]]}", "le"},
	{"{a:*[]}", "{a:*[^]}", "m"}, {"{a:*[^]}", "{a:*[]}", "m"}, {"{a:*[]}", "{a:*[*[]]}", "me"}, {"{a:*[*[]]}", "{a:*[]}", "me"}, {"{a:*[?[][]]}", "{a:*[]}", "me"}, {"{a:^?[][]}", "{a:?[][]}", ""}, {"{a:^?[][]}", "{a:^*[]}", same},
	// Of one length those of the first one come first, and the shorter ones ahead of all longer ones.
	{"{a:?[*[]][+a]}", "{a:?[][]}", "r"}, {"{a:?[][]}", "{a:?[*[]][+a]}", "l"}, {"{a:?[*[]][]}", "{a:?[][]}", "l"}, {"{a:?[?[+a][]][]}", "{a:?[?[][]][^]}", "r"}, {"{a:?[?[+a][]][?[][]]}", "{a:?[?[][]][]}", "r"}, {"{a:?[?[][]][]}", "{a:?[?[+a][]][?[][]]}", "r"},
	{"{a:?[?[][]][?[+a][]]}", "{a:?[*[]][?[][]]}", "ll"}, {"{a:?[?[][]][?[][+a]]}", "{a:?[?[][]][?[][]]}", "rr"},

	// At most as many as are listed.
	{"{a:?[][]?[][]?[][]?[][]?[][]?[][+a]}", "{a:?[][]?[][]?[][]?[][]?[][]?[][]}", "lllllr"}, {"{a:?[][]?[][]?[][]?[][]?[][]?[][]?[+a][]}", "{a:?[][]?[][]?[][]?[][]?[][]?[][]?[][]}", same}, {"{a:+a?[][]?[][]?[][]?[][]?[][]?[][]?[][]}", "{a:*[]*[]*[]*[]*[]*[]*[]}", same},
	{"{a:?[][]?[][]?[][]?[][]?[][]?[][]?[][]}", "{a:}", ""}, {"{a:?[][]?[][]?[][]?[][]?[][]?[][]?[][]}", "{a:?[][]?[][]?[][]?[][]?[][]?[][]}", "llllll"}, {"{a:?[][]?[][]?[][]?[][]?[][]?[][]}", "{a:?[][]?[][]?[][]?[][]?[][]?[][]?[][]}", "llllll"}, {"{a:*[*[*[*[*[*[*[+a]]]]]]]}", "{a:*[*[*[*[*[*[*[]]]]]]]}", same},
}

func TestPairsOfPrograms(t *testing.T) {
	for _, c := range pairs {
		if c.choices == same {
			checkFirst(t, c.p, c.q, "", false)
		} else {
			checkFirst(t, c.p, c.q, c.choices, true)
		}
		checkPair(t, c.p, c.q)
	}
}

func TestTextsThatAreNotWritten(t *testing.T) {
	for _, p := range noPrograms {
		checkNothingWritten(t, p)
		checkFirst(t, p, "{a:+a?[.a][^]}", "", false)
		checkFirst(t, "{a:+a?[.a][^]}", p, "", false)
		checkFirst(t, p, "y", "", false)
	}
	for b := range 256 {
		checkNothingWritten(t, string([]byte{byte(b)}))
		checkChapter6(t, "{a:+a"+string([]byte{byte(b)})+"a}")
		checkChapter6(t, "{ab:+a"+string([]byte{byte(b)})+"ba}")
	}
	for _, p := range []string{
		"{a:" + strings.Repeat("+a", 38) + "~a}",
		"{a:" + strings.Repeat("~a", 39) + "}",
		"{a:" + strings.Repeat("*[", 1<<20) + "+a" + strings.Repeat("]", 1<<20) + "}",
		strings.Repeat("{a:", 1<<20),
		"{a:{b:{c:{d:{e:+a}}}}}",
	} {
		checkNothingWritten(t, p)
	}
}

// TestLongProgramsWritten has programs as long as they may be.
func TestLongProgramsWritten(t *testing.T) {
	list := []string{
		"{a:" + strings.Repeat("^", 76) + "}",
		"{a:" + strings.Repeat("*[", 24) + "+a" + strings.Repeat("]", 24) + "~a}",
		"{a:" + strings.Repeat("*[~a", 14) + "+a" + strings.Repeat("]", 14) + "}",
		"{abcdef:*[" + "?[=fe][]?[=ed][]?[=dc][]?[=cb][]?[=ba][]+a" + "]}",
		"{abcdef:+a+b+c+d+e+f" + strings.Repeat("?[^][!", 7) + strings.Repeat("]", 7) + "}",
		"{a:*[{b:*[{c:*[{d:" + strings.Repeat("?[+d][]", 6) + "}]}]}]}",
		"{a:+a" + strings.Repeat("{b:+b}", 12) + "}",
		"{a:" + strings.Repeat("?[][]", 15) + "}",
		"{a:" + strings.Repeat("*[]", 25) + "}",
	}
	checkValid(t, checkChapter6, list...)
	for _, p := range list {
		for _, q := range list {
			checkPair(t, p, q)
		}
	}
}

// TestWritingTextsNextToPrograms leaves out, replaces and puts in bytes of programs.
func TestWritingTextsNextToPrograms(t *testing.T) {
	for _, p := range programs {
		for _, text := range textsNextTo(p, "^", "~", "+a", "~a", "=ab", "a", "}", "\x00") {
			checkChapter6(t, text)
		}
		for _, text := range textsNextTo(p, "^", "+a", "*[]") {
			checkPair(t, p, text)
		}
	}
}

func TestWritingProgramsAtRandom(t *testing.T) {
	for _, p := range append(randomPrograms(t, 61, 1200), programs...) {
		checkChapter6(t, p)
	}
}

// TestWhatIsWrittenOutDoesTheSame has what promise 6 tells, of programs at random and of all that are told by hand.
func TestWhatIsWrittenOutDoesTheSame(t *testing.T) {
	random := rand.New(rand.NewSource(62))
	list := append(randomPrograms(t, 63, 500), programs...)
	for _, c := range writings {
		list = append(list, c.p)
	}
	for _, p := range list {
		checkWrittenOut(t, random, p)
		out, ok := impl.WriteOut(p)
		if !ok {
			continue
		}
		short, _ := impl.AllChoices(out, 4)
		for _, choices := range short {
			checkRunOfBoth(t, p, out, choices)
			checkSaid(t, out, choices)
		}
	}
}

// TestPairsAtRandom has programs and what comes of them when a step is left out, or when they are written out.
func TestPairsAtRandom(t *testing.T) {
	random := rand.New(rand.NewSource(64))
	list := slices.DeleteFunc(randomPrograms(t, 65, 400), func(p string) bool { return len(p) > 50 })
	for i, p := range list {
		starts, _ := impl.StepsOf(p)
		at := starts[random.Intn(len(starts))]
		step, _ := impl.StepAt(p, at)
		checkPair(t, p, p[:at]+p[at+len(step):])
		checkPair(t, p, list[(i+1)%len(list)])
		if out, ok := impl.WriteOut(p); ok {
			checkPair(t, p, out)
		}
	}
}
