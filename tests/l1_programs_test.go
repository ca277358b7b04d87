package tests

import (
	"slices"
	"strings"
	"testing"

	"loop.example/endsoflife/impl"
)

// programs are ordinary ones and those at the edges of what chapter 1 allows.
var programs = []string{
	"{a:}",
	"{f:}",
	"{fedcba:}",
	"{ab:+a?[=ba][].b}",
	"{ab:+a=ba.b-b~a^!}",
	"{a:?[][]*[]}",
	"{a:*[*[?[^][!]]]}",
	"{a:?[?[+a][.a]][?[-a][~a]]}",
	"{a:{b:+b}{b:+b=ab}}",
	"{a:?[{b:.b}][{b:-b}]{c:{b:~b}}}",
	"{ca:*[{b:+b*[{f:=fb}]}].c{f:}}",
	"{a:{b:{c:{d:+d=ad}}}}",
	"{ab:+a?[^][]+b?[!][]}",
}

func TestProgramsThatAreValid(t *testing.T) {
	for _, p := range programs {
		if !impl.ProgramValid(p) {
			t.Errorf("ProgramValid(%q) = false", p)
		}
		checkChapter1(t, p)
	}
}

var noPrograms = []string{
	"", " ", "x", "}", "{", "a", ":", "+a", "^", "[]", "{}", "{:}", "{a}", "{a:", "{ab", "{a:}}", "{a:} ", " {a:}", "{a:}{a:}", "{a:}\n",
	"{a :}", "{a::}", "{A:}", "{g:}", "{`:}", "{a,b:}", "{a;}", "{a:;}", "{a: }",
	"{aa:}", "{aba:}", "{a:{a:}}", "{a:{b:{ca:}}}", "{a:*[{b:?[{ab:}][]}]}",
	"{a:+}", "{a:+b}", "{a:.b}", "{a:-b}", "{a:~b}", "{a:=ab}", "{a:=ba}", "{a:=a}", "{a:=}", "{a:+g}", "{a:+A}", "{a:+ a}", "{a:++a}", "{a:a}",
	"{a:{b:}.b}", "{a:{b:+b}{c:.b}}", "{a:{b:}=ab}", "{a:*[{b:}+b]}",
	"{a:=aa}", "{ab:=bb}", "{ab:+a?[=aa][]}", "{a:*[=aa]}",
	"{a:?}", "{a:?[}", "{a:?[]}", "{a:?[+a]}", "{a:?[][}", "{a:?[]]}", "{a:?[]+a[]}", "{a:?[][][]}", "{a:??[][]}", "{a:[]}", "{a:?{}{}}", "{a:?[}][]",
	"{a:*}", "{a:*+a}", "{a:*[}", "{a:*[+a}", "{a:*]}", "{a:*[][]}", "{a:*[}]", "{a:*{b:}}", "{a:]}",
	"{a:^a}", "{a:!a}", "{a:{:}}", "{a:{}}", "{a:{b}}", "{a:{b:}", "{a:{b:]}",
	"\x00", "{a:\x00}", "{\x00:}", "{a:}\x00", "{a\x00:}", "{a:+\x00}", "\xff", "{\xff:}", "{a:\xff}", "{a:+\xe1}", "{á:}", "{a:＋a}",
}

func TestTextsThatAreNoPrograms(t *testing.T) {
	for _, p := range noPrograms {
		if impl.ProgramValid(p) {
			t.Errorf("ProgramValid(%q) = true", p)
		}
		checkChapter1(t, p)
	}
	for b := range 256 {
		checkChapter1(t, string([]byte{byte(b)}))
		checkChapter1(t, "{a:"+string([]byte{byte(b)})+"}")
		checkChapter1(t, "{"+string([]byte{byte(b)})+":}")
	}
}

func TestResultsForTextsThatAreNoPrograms(t *testing.T) {
	for _, p := range noPrograms {
		vars, one := impl.VarsOf(p)
		steps, two := impl.StepsOf(p)
		step, three := impl.StepAt(p, 0)
		scope, four := impl.InScope(p, 0)
		if vars != "" || one || len(steps) != 0 || two || step != "" || three || scope != "" || four {
			t.Errorf("%q: %q, %v, %v, %v, %q, %v, %q, %v", p, vars, one, steps, two, step, three, scope, four)
		}
		if impl.CountSteps(p, "{") != -1 || impl.CountSteps(p, "a") != -1 || impl.DepthOf(p) != -1 || impl.IsStraight(p) {
			t.Errorf("%q: %d, %d, %v", p, impl.CountSteps(p, "{"), impl.DepthOf(p), impl.IsStraight(p))
		}
	}
}

// TestTextsNextToPrograms leaves out, replaces and puts in each byte of each program.
func TestTextsNextToPrograms(t *testing.T) {
	for _, p := range programs {
		for i := range len(p) + 1 {
			if i < len(p) {
				checkChapter1(t, p[:i]+p[i+1:])
			}
			for _, b := range []byte(kindBytes + "abfg}:[]\x00\xff") {
				checkChapter1(t, p[:i]+string([]byte{b})+p[i:])
				if i < len(p) {
					checkChapter1(t, p[:i]+string([]byte{b})+p[i+1:])
				}
			}
		}
	}
}

func TestLengthOfPrograms(t *testing.T) {
	for _, c := range []struct {
		text  string
		valid bool
	}{
		{"{a:" + strings.Repeat("^", 75) + "}", true},
		{"{a:" + strings.Repeat("^", 76) + "}", true},
		{"{a:" + strings.Repeat("^", 77) + "}", false},
		{"{a:" + strings.Repeat("+a", 38) + "}", true},
		{"{a:" + strings.Repeat("+a", 38) + "^}", false},
		{"{a:" + strings.Repeat("*[", 25) + strings.Repeat("]", 25) + "!}", true},
		{"{a:" + strings.Repeat("*[", 25) + strings.Repeat("]", 25) + "!!}", false},
		{"{a:" + strings.Repeat("{b:}", 19) + "}", true},
		{"{a:" + strings.Repeat("{b:}", 20) + "}", false},
		{"{a:" + strings.Repeat("*[", 1<<20) + strings.Repeat("]", 1<<20) + "}", false},
		{strings.Repeat("{a:", 1<<20), false},
	} {
		if got := impl.ProgramValid(c.text); got != c.valid {
			t.Errorf("ProgramValid of %d bytes, %.20q: %v", len(c.text), c.text, got)
		}
		if c.valid || len(c.text) < 100 {
			checkChapter1(t, c.text)
		}
	}
}

func TestScopesWithinEachOther(t *testing.T) {
	for p, depth := range map[string]int{
		"{a:}":                                         1,
		"{a:{b:}{b:}{b:}{b:}{b:}}":                     2,
		"{a:*[{b:}{c:{d:}}]}":                          3,
		"{a:{b:{c:{d:}}}}":                             4,
		"{a:{b:{c:{d:}{d:}{e:}}}{b:{c:{d:}}}}":         4,
		"{a:*[{b:?[{c:*[{d:}]}][{f:*[{e:}]}]}]}":       4,
		"{a:{b:{c:{d:{e:}}}}}":                         -1,
		"{a:{b:{c:{d:*[{e:}]}}}}":                      -1,
		"{a:*[{b:?[{c:*[{d:}]}][{f:*[{e:{c:}}]}]}]}":   -1,
		"{a:{b:}{b:{c:}}{b:{c:{d:}}}{b:{c:{d:{e:}}}}}": -1,
	} {
		if got := impl.DepthOf(p); got != depth {
			t.Errorf("DepthOf(%q) = %d", p, got)
		}
		if impl.ProgramValid(p) != (depth >= 0) {
			t.Errorf("ProgramValid(%q) = %v", p, depth < 0)
		}
		checkChapter1(t, p)
	}
}

func TestVariablesDeclaredAgainInAnotherScope(t *testing.T) {
	p := "{ca:{fb:+b}{bf:=bc}}"
	if vars, ok := impl.VarsOf(p); vars != "abcf" || !ok {
		t.Errorf("VarsOf = %q, %v", vars, ok)
	}
	if scope, ok := impl.InScope(p, 8); scope != "cafb" || !ok {
		t.Errorf("InScope within the first = %q, %v", scope, ok)
	}
	if scope, ok := impl.InScope(p, 15); scope != "cabf" || !ok {
		t.Errorf("InScope within the second = %q, %v", scope, ok)
	}
	if scope, ok := impl.InScope(p, 11); scope != "ca" || !ok {
		t.Errorf("InScope of the second = %q, %v", scope, ok)
	}
}

func TestScopesWithinLoops(t *testing.T) {
	p := "{a:*[{b:+b*[{c:=cb}]}].a}"
	if steps, ok := impl.StepsOf(p); !slices.Equal(steps, []int{0, 3, 5, 8, 10, 12, 15, 22}) || !ok {
		t.Errorf("StepsOf = %v, %v", steps, ok)
	}
	for at, want := range map[int][2]string{
		0:  {p, ""},
		3:  {"*[{b:+b*[{c:=cb}]}]", "a"},
		5:  {"{b:+b*[{c:=cb}]}", "a"},
		10: {"*[{c:=cb}]", "ab"},
		12: {"{c:=cb}", "ab"},
		15: {"=cb", "abc"},
		22: {".a", "a"},
	} {
		step, one := impl.StepAt(p, at)
		scope, two := impl.InScope(p, at)
		if step != want[0] || !one || scope != want[1] || !two {
			t.Errorf("at %d: %q, %v, %q, %v", at, step, one, scope, two)
		}
	}
	if impl.IsStraight(p) || !impl.IsStraight("{a:{b:{c:+c}}^}") || impl.IsStraight("{a:{b:?[][]}}") {
		t.Error("IsStraight")
	}
}

func TestBytesAtWhichNoStepBegins(t *testing.T) {
	p := "{ab:?[=ba][]}"
	for _, at := range []int{-1 << 63, -1, 1, 2, 3, 5, 7, 8, 9, 10, 11, 12, 13, 14, 1<<63 - 1} {
		step, one := impl.StepAt(p, at)
		scope, two := impl.InScope(p, at)
		if step != "" || one || scope != "" || two {
			t.Errorf("at %d: %q, %v, %q, %v", at, step, one, scope, two)
		}
	}
}

func TestCountSteps(t *testing.T) {
	p := "{ab:+a+b=ab.a-a~b^!!?[][]*[{c:}]*[*[]]}"
	for kind, want := range map[string]int{
		"{": 2, "+": 2, "=": 1, ".": 1, "-": 1, "~": 1, "^": 1, "!": 2, "?": 1, "*": 3,
		"": -1, "a": -1, "}": -1, "[": -1, "]": -1, ":": -1, " ": -1, "\x00": -1, "\xff": -1, "++": -1, "+a": -1, "+=": -1, "=.": -1,
	} {
		if got := impl.CountSteps(p, kind); got != want {
			t.Errorf("CountSteps(%q) = %d", kind, got)
		}
	}
	for b := range 256 {
		kind := string([]byte{byte(b)})
		if got := impl.CountSteps("{a:}", kind); got >= 0 != strings.Contains(kindBytes, kind) {
			t.Errorf("CountSteps(%q) = %d", kind, got)
		}
	}
	if got := impl.CountSteps("{a:}", "*"); got != 0 {
		t.Errorf("CountSteps without loops = %d", got)
	}
}

func TestListsOfStepsShareNoMemory(t *testing.T) {
	p := "{ab:+a?[=ba][].b}"
	one, _ := impl.StepsOf(p)
	two, _ := impl.StepsOf(p)
	want := slices.Clone(two)
	one = one[:cap(one)]
	for i := range one {
		one[i] = -7
	}
	again, _ := impl.StepsOf(p)
	if !slices.Equal(two, want) || !slices.Equal(again, want) {
		t.Errorf("StepsOf = %v, then %v", two, again)
	}
}
