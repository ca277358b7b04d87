package tests

import (
	"math/rand"
	"strings"
	"testing"
	"unsafe"

	"loop.example/endsoflife/impl"
)

// simplerPrograms are programs and what chapter 10 says of them; a program is the empty string where it stays as it is.
var simplerPrograms = []struct {
	p, dead, unused, vars, simple string
}{
	// Simple ones.
	{"{a:}", "", "a", "", ""}, {"{a:^}", "", "a", "", ""}, {"{a:*[]}", "", "a", "", ""}, {"{a:?[][]}", "", "a", "", ""}, {"{a:?[^][!]}", "", "a", "", ""},
	{"{a:+a}", "", "", "", ""}, {"{a:+a-a}", "", "", "", ""}, {"{a:.a}", "", "", "", ""}, {"{fedcba:+a+b+c+d+e+f}", "", "", "", ""}, {"{ab:+a?[=ba][].b}", "", "", "", ""},
	{"{ab:+a=ba}", "", "", "", ""}, {"{ab:=ab}", "", "", "", ""}, {"{ab:+b=ab}", "", "", "", ""}, {"{a:+a?[^][!]}", "", "", "", ""}, {"{a:*[+a^]}", "", "", "", ""}, {"{a:*[?[.a][+a]]}", "", "", "", ""},
	{"{ab:+a?[=ba][]~b~a}", "", "", "", ""}, {"{a:*[~a+a]}", "", "", "", ""}, {"{a:+a{b:+b}.a}", "", "", "", ""}, {"{a:+a{b:{c:+b+c}}}", "", "", "", ""}, {"{a:+a{b:+b}{b:.b}}", "", "", "", ""},

	// Steps that are not reached: behind exits, behind faults, and with all that stands in them.
	{"{ab:+b{c:+b^}.b}", "{ab:+b{c:+b^}}", "ac", "{b:+b+b^.b}", "{b:+b+b^}"},
	{"{a:+a^.a}", "{a:+a^}", "", "", "{a:+a^}"}, {"{a:+a!.a^}", "{a:+a!}", "", "", "{a:+a!}"}, {"{a:+a^^^!!}", "{a:+a^}", "", "", "{a:+a^}"}, {"{a:^~a}", "{a:^}", "", "", "{a:^}"},
	{"{a:.a+a}", "{a:.a}", "", "", "{a:.a}"}, {"{a:-a-a}", "{a:-a}", "", "", "{a:-a}"}, {"{ab:=ab+a+b}", "{ab:=ab}", "", "", "{ab:=ab}"}, {"{a:+a-a.a^}", "{a:+a-a.a}", "", "", "{a:+a-a.a}"},
	{"{a:+a^{b:+b{c:}}*[.a?[][]]?[.a][-a]}", "{a:+a^}", "c", "{a:+a^{b:+b}*[.a?[][]]?[.a][-a]}", "{a:+a^}"},
	{"{a:+a?[^][!]{b:+b}*[.a]}", "{a:+a?[^][!]}", "", "", "{a:+a?[^][!]}"}, {"{a:+a?[^.a][.a].a}", "{a:+a?[^][.a].a}", "", "", "{a:+a?[^][.a].a}"},
	{"{a:+a{b:+b^}+a}", "{a:+a{b:+b^}}", "", "", "{a:+a{b:+b^}}"}, {"{a:+a{b:+b{c:.c}+b}+a}", "{a:+a{b:+b{c:.c}}}", "", "", "{a:+a{b:+b{c:.c}}}"},
	// A step is left out for what is known of it, although another one of the same text stays.
	{"{a:+a?[+a][^+a]+a}", "{a:+a?[+a][^]+a}", "", "", "{a:+a?[+a][^]+a}"}, {"{a:*[.a+a]}", "{a:*[.a]}", "", "", "{a:*[.a]}"}, {"{a:*[+a^.a].a}", "{a:*[+a^].a}", "", "", "{a:*[+a^].a}"},

	// Bodies of branches and loops that get empty.
	{"{a:?[^+a][!].a}", "{a:?[^][!]}", "", "", "{a:?[^][!]}"}, {"{a:.a?[+a][^]*[+a]}", "{a:.a}", "", "", "{a:.a}"}, {"{a:?[~a][{b:}]}", "", "b", "{a:?[~a][]}", "{a:?[][]}"},
	{"{a:*[~a]}", "", "", "", "{a:*[]}"}, {"{a:*[{b:}]}", "", "ab", "{a:*[]}", "{a:*[]}"}, {"{a:*[{b:~b}]?[{b:~b}][~a]}", "", "", "", "{a:*[]?[][]}"}, {"{a:+a*[{b:~b}]}", "", "", "", "{a:+a*[]}"},
	{"{a:*[*[~a~a]]}", "", "", "", "{a:*[*[]]}"}, {"{a:^?[+a][]}", "{a:^}", "", "", "{a:^}"}, {"{a:*[^~a]}", "{a:*[^]}", "", "", "{a:*[^]}"}, {"{ab:?[{c:+a}][{c:}]*[{d:.a}]}", "", "bcd", "{a:?[+a][]*[.a]}", "{a:?[+a][]*[.a]}"},

	// Scopes that declare nothing any more.
	{"{a:+a{b:+a}.a}", "", "b", "{a:+a+a.a}", "{a:+a+a.a}"}, {"{a:+a{b:}}", "", "b", "{a:+a}", "{a:+a}"}, {"{a:{b:{c:+a}}}", "", "bc", "{a:+a}", "{a:+a}"}, {"{a:+a{b:{c:{d:}}}}", "", "bcd", "{a:+a}", "{a:+a}"},
	{"{a:+a{b:{c:+b}}}", "", "c", "{a:+a{b:+b}}", "{a:+a{b:+b}}"}, {"{a:+a{b:{c:+c}}}", "", "b", "{a:+a{c:+c}}", "{a:+a{c:+c}}"}, {"{a:+a{b:+a{c:+c}+a}+a}", "", "b", "{a:+a+a{c:+c}+a+a}", "{a:+a+a{c:+c}+a+a}"},
	{"{a:+a{bc:+a^}}", "", "bc", "{a:+a+a^}", "{a:+a+a^}"}, {"{a:+a?[{b:.a}{b:+b}][{bcd:-a}]}", "", "bcd", "{a:+a?[.a{b:+b}][-a]}", "{a:+a?[.a{b:+b}][-a]}"}, {"{a:*[{b:+a{c:}}{b:{c:+c}}]}", "", "bc", "{a:*[+a{c:+c}]}", "{a:*[+a{c:+c}]}"},

	// Scopes that still declare others, as they are declared.
	{"{abc:+b}", "", "ac", "{b:+b}", "{b:+b}"}, {"{fbd:+b+f}", "", "d", "{fb:+b+f}", "{fb:+b+f}"}, {"{cab:+b+c}", "", "a", "{cb:+b+c}", "{cb:+b+c}"}, {"{fedcba:+a.a+e.e}", "", "bcdf", "{ea:+a.a+e.e}", "{ea:+a.a+e.e}"},
	{"{a:+a{dcb:+b+d}}", "", "c", "{a:+a{db:+b+d}}", "{a:+a{db:+b+d}}"}, {"{acb:+a=ba}", "", "c", "{ab:+a=ba}", "{ab:+a=ba}"}, {"{cba:*[{edf:?[=fa][]}]}", "", "bcde", "{a:*[{f:?[=fa][]}]}", "{a:*[{f:?[=fa][]}]}"},

	// Variables of the same name in two scopes.
	{"{a:+a{b:+b}{b:}}", "", "b", "{a:+a{b:+b}}", "{a:+a{b:+b}}"}, {"{a:+a{b:}{b:+b}}", "", "b", "{a:+a{b:+b}}", "{a:+a{b:+b}}"}, {"{a:+a{bc:+b}{bc:+c}}", "", "bc", "{a:+a{b:+b}{c:+c}}", "{a:+a{b:+b}{c:+c}}"},
	{"{a:?[{b:+b}][{b:+a}]}", "", "b", "{a:?[{b:+b}][+a]}", "{a:?[{b:+b}][+a]}"}, {"{a:{b:{c:+b+c}}{c:{b:+c}}}", "", "ab", "{a:{b:{c:+b+c}}{c:+c}}", "{a:{b:{c:+b+c}}{c:+c}}"},
	{"{a:{b:+a}{b:+a}{b:+b}}", "", "b", "{a:+a+a{b:+b}}", "{a:+a+a{b:+b}}"}, {"{a:+a{b:{c:+c}}{c:{b:+b}}}", "", "bc", "{a:+a{c:+c}{b:+b}}", "{a:+a{c:+c}{b:+b}}"},

	// An outermost scope whose variables are all unused declares its first one, as they are declared.
	{"{ab:}", "", "ab", "{a:}", "{a:}"}, {"{ba:}", "", "ab", "{b:}", "{b:}"}, {"{fedcba:}", "", "abcdef", "{f:}", "{f:}"}, {"{ba:^}", "", "ab", "{b:^}", "{b:^}"}, {"{a:{b:}}", "", "ab", "{a:}", "{a:}"},
	{"{a:{b:+b}}", "", "a", "", ""}, {"{ba:{c:+c}}", "", "ab", "{b:{c:+c}}", "{b:{c:+c}}"}, {"{a:{b:{c:+c}}}", "", "ab", "{a:{c:+c}}", "{a:{c:+c}}"}, {"{a:{b:{c:{d:^}}}}", "", "abcd", "{a:^}", "{a:^}"},
	{"{cab:*[{d:}]!}", "", "abcd", "{c:*[]!}", "{c:*[]!}"}, {"{b:{a:}{a:{c:}}}", "", "abc", "{b:}", "{b:}"},

	// What gets unused by what is left out.
	{"{ab:+a^+b}", "{ab:+a^}", "", "", "{a:+a^}"}, {"{ab:+a~b}", "", "", "", "{a:+a}"}, {"{ab:~a+b~b}", "", "", "", "{b:+b-b}"}, {"{a:+a{b:^+b}}", "{a:+a{b:^}}", "", "", "{a:+a^}"}, {"{a:+a{b:~b.a}}", "", "", "", "{a:+a.a}"},
	{"{abc:+a?[^=bc][=ab]}", "{abc:+a?[^][=ab]}", "", "", "{ab:+a?[^][=ab]}"}, {"{a:+a{b:?[^+b][.a]}}", "{a:+a{b:?[^][.a]}}", "", "", "{a:+a?[^][.a]}"},
	{"{ab:^+b}", "{ab:^}", "a", "{b:^+b}", "{a:^}"}, {"{ab:~b}", "", "a", "{b:~b}", "{a:}"}, {"{ba:~b~a}", "", "", "", "{b:}"}, {"{ab:.a{c:+c}+b}", "{ab:.a}", "", "", "{a:.a}"}, {"{a:{b:+b^}+a}", "{a:{b:+b^}}", "", "", "{a:{b:+b^}}"},
	{"{a:?[^{b:~a+b}][{b:~b+a}]}", "{a:?[^][{b:~b+a}]}", "", "", "{a:?[^][+a]}"}, {"{a:+a{b:~b{c:~c~b}}}", "", "", "", "{a:+a}"},

	// Steps ~v say what they do.
	{"{a:+a~a}", "", "", "", "{a:+a-a}"}, {"{a:+a~a~a}", "", "", "", "{a:+a-a}"}, {"{a:?[+a][]~a~a}", "", "", "", "{a:?[+a][]~a}"}, {"{a:?[~a^~a][+a]~a}", "{a:?[~a^][+a]~a}", "", "", "{a:?[^][+a]-a}"},
	{"{a:+a{b:~a~b}~a}", "", "", "", "{a:+a-a}"},
}

// filled returns an expected program, or the one from which it comes if it is to stay as it is.
func filled(text, p string) string {
	if text == "" {
		return p
	}
	return text
}

func TestSimplerPrograms(t *testing.T) {
	random := rand.New(rand.NewSource(101))
	for _, c := range simplerPrograms {
		s := simpler{dead: filled(c.dead, c.p), unused: c.unused, vars: filled(c.vars, c.p), simple: filled(c.simple, c.p)}
		if s.simple != c.p {
			s.rounds = 1
		}
		checkSimpler(t, c.p, s, true)
		checkChapter10(t, c.p)
		checkSameRuns(t, random, c.p)
	}
}

func TestTextsThatAreNotSimplified(t *testing.T) {
	for _, p := range noPrograms {
		checkNoSimpler(t, p)
	}
	for b := range 256 {
		text := string([]byte{byte(b)})
		checkNoSimpler(t, text)
		checkChapter10(t, "{a:+a"+text+"}")
		checkChapter10(t, "{ab:+a?["+text+"][!]^}")
		checkChapter10(t, "{a"+text+":+a^}")
	}
	for _, p := range []string{
		// Texts that would be programs without what is left out.
		"{a:^" + strings.Repeat("!", 76) + "}",
		"{a:" + strings.Repeat("~a", 39) + "}",
		"{a:{b:{c:{d:{e:}}}}}",
		"{a:^{b:{c:{d:{e:+e}}}}}",
		"{a:^+b}", "{aab:}", "{a:+a{a:}}",
		"{a:" + strings.Repeat("*[", 1<<20) + "^" + strings.Repeat("]", 1<<20) + "}",
		strings.Repeat("{a:", 1<<20),
	} {
		checkNoSimpler(t, p)
	}
}

// TestLongProgramsSimplified has programs as long as they may be.
func TestLongProgramsSimplified(t *testing.T) {
	checkValid(t, checkChapter10,
		"{a:"+strings.Repeat("^", 76)+"}",
		"{a:"+strings.Repeat("~a", 38)+"}",
		"{a:"+strings.Repeat("+a", 38)+"}",
		"{a:"+strings.Repeat(".a", 38)+"}",
		"{a:"+strings.Repeat("{b:}", 19)+"}",
		"{a:"+strings.Repeat("{b:{c:{d:}}}", 6)+"}",
		"{a:"+strings.Repeat("*[", 23)+"+a^"+strings.Repeat("]", 23)+"+a}",
		"{a:"+strings.Repeat("*[~a", 14)+"+a"+strings.Repeat("]", 14)+"}",
		"{a:"+strings.Repeat("?[~a][]", 10)+"}",
		"{abc:"+strings.Repeat("{def:+d}", 9)+"}",
		"{abc:"+strings.Repeat("{def:+b}", 9)+"}",
		"{ab:+a{cd:+c?[+d][]?[^][]{ef:?[+e][]+f?[!][]-f?[^][]}}?[+b][]?[^][].b!}",
		"{abcdef:*[?[^][]?[=fe][]?[=ed][]?[=dc][]?[=cb][]?[=ba][]+a]!}",
	)
	nested := strings.Repeat("*[", 24) + "+a^" + strings.Repeat("]", 24)
	for _, c := range []struct{ p, simple string }{
		{"{a:" + strings.Repeat("^", 76) + "}", "{a:^}"},
		{"{a:" + strings.Repeat("~a", 38) + "}", "{a:}"},
		{"{ab:" + strings.Repeat("{c:}", 18) + "+b}", "{b:+b}"},
		{"{a:" + nested + "}", "{a:" + nested + "}"},
		{"{a:" + nested + "!}", "{a:" + nested + "!}"},
		{"{ab:" + nested + "}", "{a:" + nested + "}"},
		{"{ab:" + strings.Repeat("?[^][!", 10) + strings.Repeat("]", 10) + "+a.a}", "{a:?[^][!]}"},
		{"{ba:" + strings.Repeat("?[^][", 11) + "+a" + strings.Repeat("]", 11) + ".a}", "{a:" + strings.Repeat("?[^][", 11) + "+a" + strings.Repeat("]", 11) + ".a}"},
		{"{a:{b:{c:{d:" + strings.Repeat("+d", 32) + "}}}}", "{a:{d:" + strings.Repeat("+d", 32) + "}}"},
		{"{a:*[{b:*[{c:*[{d:" + strings.Repeat("?[+d][]", 6) + "}]}]}]}", "{a:*[*[*[{d:" + strings.Repeat("?[+d][]", 6) + "}]]]}"},
	} {
		checkText(t, impl.Simplify, "Simplify", c.p, c.simple, true)
		checkChapter10(t, c.p)
	}
}

// TestSimplifyingTextsNextToPrograms leaves out, replaces and puts in bytes of programs.
func TestSimplifyingTextsNextToPrograms(t *testing.T) {
	list := programs
	for _, c := range simplerPrograms {
		list = append(list[:len(list):len(list)], c.p)
	}
	for _, p := range list {
		for _, text := range textsNextTo(p, "^", "~a", "{b:", "}", "c") {
			checkChapter10(t, text)
		}
	}
}

func TestSimplifyingProgramsAtRandom(t *testing.T) {
	for _, p := range append(randomPrograms(t, 102, 800), programs...) {
		checkChapter10(t, p)
	}
	dead, unused, simple := 0, 0, 0
	for _, p := range programsToSimplify(t, 103, 1200) {
		checkChapter10(t, p)
		s := simplerOf(t, p)
		if s.dead != p {
			dead++
		}
		if s.vars != p {
			unused++
		}
		if s.simple != p && s.simple != s.dead && s.simple != s.vars {
			simple++
		}
	}
	if dead < 200 || unused < 200 || simple < 200 {
		t.Errorf("%d programs with dead steps, %d with unused variables, %d with more than one of these", dead, unused, simple)
	}
}

// TestSimplerProgramsDoTheSame has what promise 10 tells.
func TestSimplerProgramsDoTheSame(t *testing.T) {
	random := rand.New(rand.NewSource(105))
	list := append(programsToSimplify(t, 106, 500), randomPrograms(t, 108, 200)...)
	for _, p := range list {
		checkSameRuns(t, random, p)
	}
}

// TestSimplerTextsShareNoMemory has programs that stay as they are, which must be told as new texts.
func TestSimplerTextsShareNoMemory(t *testing.T) {
	for _, p := range []string{"{a:+a{b:+b}}", "{ab:+b{c:+b^}.b}", "{a:}", "{fedcba:}"} {
		from := uintptr(unsafe.Pointer(unsafe.StringData(p)))
		for _, f := range []func(string) (string, bool){impl.DropDead, impl.UnusedVars, impl.DropVars, impl.Simplify} {
			got, ok := f(p)
			at := uintptr(unsafe.Pointer(unsafe.StringData(got)))
			if got != "" && at >= from && at < from+uintptr(len(p)) || !ok {
				t.Errorf("%q, %v shares the memory of %q", got, ok, p)
			}
		}
	}
}
