package tests

import (
	"math/rand"
	"runtime"
	"slices"
	"strings"
	"testing"
	"time"
	"unsafe"

	"loop.example/endsoflife/impl"
)

// All orders of one, two, three and four variables.
const (
	ordersOf1 = "a"
	ordersOf2 = "ab ba"
	ordersOf3 = "abc acb bac bca cab cba"
	ordersOf4 = "abcd abdc acbd acdb adbc adcb bacd badc bcad bcda bdac bdca cabd cadb cbad cbda cdab cdba dabc dacb dbac dbca dcab dcba"
)

// branches and loops are steps that add a choice each to a run and do nothing.
func branches(count int) string { return strings.Repeat("?[][]", count) }

func loops(count int) string { return strings.Repeat("*[]", count) }

// within returns steps that stand in a number of branches, on the left of each.
func within(count int, steps string) string {
	return strings.Repeat("?[", count) + steps + strings.Repeat("][]", count)
}

// orderings are programs and what chapter 11 says of them; no order is nested with them where order is the empty string.
var orderings = []struct {
	p, orders, same string
	nested          bool
	order           string
	most            int
}{
	// Runs without values.
	{"{a:}", ordersOf1, ordersOf1, true, "a", 0}, {"{ab:}", ordersOf2, ordersOf2, true, "ab", 0}, {"{ba:}", ordersOf2, ordersOf2, true, "ab", 0}, {"{ba:^}", ordersOf2, ordersOf2, true, "ab", 0},
	{"{cab:!}", ordersOf3, ordersOf3, true, "abc", 0}, {"{abcd:}", ordersOf4, ordersOf4, true, "abcd", 0}, {"{dcba:^}", ordersOf4, ordersOf4, true, "abcd", 0},
	{"{ab:.a}", ordersOf2, ordersOf2, true, "ab", 0}, {"{ab:-b+a}", ordersOf2, ordersOf2, true, "ab", 0}, {"{ba:=ab}", ordersOf2, ordersOf2, true, "ab", 0}, {"{ab:~a~b}", ordersOf2, ordersOf2, true, "ab", 0},
	{"{ab:?[][]*[]}", ordersOf2, ordersOf2, true, "ab", 0}, {"{ab:?[^][!]}", ordersOf2, ordersOf2, true, "ab", 0}, {"{ab:^+b+a}", ordersOf2, ordersOf2, true, "ab", 0},

	// Ordinary ones.
	{"{a:+a}", ordersOf1, ordersOf1, true, "a", 1}, {"{ab:+a+b}", ordersOf2, "ab", true, "ab", 2}, {"{ab:+b+a}", ordersOf2, "ab", false, "ba", 2},
	{"{ba:+a+b}", ordersOf2, "ba", false, "ab", 2}, {"{ba:+b+a}", ordersOf2, "ba", true, "ba", 2}, {"{abc:+a+b+c}", ordersOf3, "abc", true, "abc", 3}, {"{abc:+c+a+b}", ordersOf3, "abc", false, "cab", 3},
	{"{cab:+b}", ordersOf3, ordersOf3, true, "abc", 1}, {"{abc:+b+c}", ordersOf3, "abc bac bca", true, "abc", 2}, {"{abc:+c+b}", ordersOf3, "abc bac bca", false, "acb", 2}, {"{cba:+c+b}", ordersOf3, "acb cab cba", true, "acb", 2},

	// Variables that hold nothing in the end: they are destroyed, moved, or destroyed with a flag.
	{"{ab:+a+b-a-b}", ordersOf2, ordersOf2, false, "", 2}, {"{ab:+a+b-b-a}", ordersOf2, ordersOf2, true, "ab", 2}, {"{ba:+a+b-b-a}", ordersOf2, ordersOf2, true, "ab", 2}, {"{ab:+b+a-b}", ordersOf2, ordersOf2, false, "", 2},
	{"{ba:+a+b-b}", ordersOf2, ordersOf2, true, "ab", 2}, {"{ab:+a+b~a}", ordersOf2, ordersOf2, false, "", 2}, {"{ab:+a=ba}", ordersOf2, ordersOf2, true, "ab", 1}, {"{ab:+a=ba+a}", ordersOf2, "ab", false, "ba", 2},
	{"{abc:+a+c+b-a}", ordersOf3, "abc bac bca", false, "", 3}, {"{abc:+c+a+b-b}", ordersOf3, "abc acb bac", false, "bca", 3}, {"{ab:+a.a-a+b}", ordersOf2, ordersOf2, true, "ab", 1},
	// Variables whose values are others in the end.
	{"{ab:+a+a+b}", ordersOf2, "ab", true, "ab", 2}, {"{ab:+a+b+a}", ordersOf2, "ab", false, "", 2}, {"{ab:+a+b+b}", ordersOf2, "ab", true, "ab", 2}, {"{ab:+b+a-a+a}", ordersOf2, "ab", false, "ba", 2},

	// Runs that end with faults, and destroy nothing then.
	{"{abc:+b+a.c}", ordersOf3, ordersOf3, true, "abc", 2}, {"{ab:+b+a-b.b}", ordersOf2, ordersOf2, false, "", 2}, {"{abc:+b+a?[.c][]}", ordersOf3, "abc acb cab", false, "bac", 2}, {"{ab:+b+a?[.a][.b-b.b]}", ordersOf2, "ab", false, "", 2},
	{"{ab:+b+a?[-b.b][]" + branches(6) + "}", ordersOf2, ordersOf2, false, "", 2},

	// Orders that are nested in some runs alone.
	{"{ab:?[+a+b][+b+a]}", ordersOf2, "ab", false, "", 2}, {"{ba:?[+a+b][+b+a]}", ordersOf2, "ba", false, "", 2}, {"{ab:?[+a+b][]}", ordersOf2, "ab", true, "ab", 2}, {"{ab:?[+b+a][]}", ordersOf2, "ab", false, "ba", 2},
	{"{ab:?[][+b+a]}", ordersOf2, "ab", false, "ba", 2}, {"{abc:?[+a+b][+c+a]}", ordersOf3, "abc acb", false, "cab", 2}, {"{abc:?[+a+b][?[+b+c][+c+a]]}", ordersOf3, "abc", false, "", 2},
	{"{ab:+b+a?[-b][-a]}", ordersOf2, ordersOf2, false, "", 2}, {"{ab:+b+a?[-a][]}", ordersOf2, "ab", false, "ba", 2}, {"{ab:*[?[+a][+b]]}", ordersOf2, "ab", false, "", 2},
	{"{ab:*[+b]+a}", ordersOf2, "ab", false, "ba", 2}, {"{ab:+a*[+b]}", ordersOf2, "ab", true, "ab", 2}, {"{ab:*[+a+b]}", ordersOf2, "ab", false, "", 2}, {"{a:*[+a]}", ordersOf1, ordersOf1, true, "a", 1},

	// Values that are destroyed where the program returns or fails.
	{"{ab:+b+a^}", ordersOf2, "ab", false, "ba", 2}, {"{ab:+b+a!}", ordersOf2, "ab", false, "ba", 2}, {"{ab:?[+b+a!][]}", ordersOf2, "ab", false, "ba", 2}, {"{ab:?[+a+b][+b+a^]}", ordersOf2, "ab", false, "", 2},
	// Scopes within the outermost one, whose variables stay in their order.
	{"{ab:{c:+c+b+a^}}", ordersOf2, "ab", false, "", 3}, {"{ab:{c:+b+a+c!}}", ordersOf2, "ab", false, "ba", 3}, {"{a:{cb:+b+c}}", ordersOf1, ordersOf1, false, "", 2}, {"{a:{bc:+b+c}+a}", ordersOf1, ordersOf1, true, "a", 2},
	{"{ba:+a{cd:+c}+b}", ordersOf2, "ba", false, "ab", 2}, {"{ab:+b{c:+c}{c:+c}+a}", ordersOf2, "ab", false, "ba", 2}, {"{abcd:{ef:+f+e}}", ordersOf4, ordersOf4, false, "", 2}, {"{a:{bcdef:+b}}", ordersOf1, ordersOf1, true, "a", 1},

	// As many variables as are put in order.
	{"{abcd:+a+b+c+d}", ordersOf4, "abcd", true, "abcd", 4}, {"{abcd:+d+c+b+a}", ordersOf4, "abcd", false, "dcba", 4}, {"{acbd:+c+a+d+b}", ordersOf4, "acbd", false, "cadb", 4},
	{"{dbca:+b+d}", ordersOf4, "acdb adbc adcb cadb cdab cdba dabc dacb dbac dbca dcab dcba", false, "abcd", 2},
	{"{abcd:?[+a+d][+c+b]}", ordersOf4, "abcd abdc adbc bacd badc bcad", false, "acbd", 2},

	// Programs without short runs, and some with runs that are as long as short ones may be.
	{"{ba:+a+b" + branches(7) + "}", ordersOf2, ordersOf2, true, "ab", 0}, {"{ba:+a+b" + branches(6) + "}", ordersOf2, "ba", false, "ab", 2},
	{"{ab:+b+a" + loops(7) + "}", ordersOf2, ordersOf2, true, "ab", 0}, {"{ab:+b+a" + loops(6) + "}", ordersOf2, "ab", false, "ba", 2},
	{"{ab:+a+b+a" + loops(7) + "}", ordersOf2, ordersOf2, true, "ab", 0}, {"{dcba:+b+a" + loops(20) + "}", ordersOf4, ordersOf4, true, "abcd", 0},
	// What is done in longer runs alone does not count.
	{"{ab:?[][+b+a" + branches(6) + "]}", ordersOf2, ordersOf2, true, "ab", 0}, {"{ab:?[][+b+a" + branches(5) + "]}", ordersOf2, "ab", false, "ba", 2},
	{"{ab:" + within(7, "+b+a") + "}", ordersOf2, ordersOf2, true, "ab", 0}, {"{ab:" + within(6, "+b+a") + "}", ordersOf2, "ab", false, "ba", 2},
	{"{ab:+b+a*[*[*[*[*[*[*[]]]]]]]}", ordersOf2, "ab", false, "ba", 2}, {"{a:+a*[?[][]]*[{b:" + branches(5) + "+b}]}", ordersOf1, ordersOf1, true, "a", 1}, {"{a:+a*[{b:" + branches(4) + "+b}]}", ordersOf1, ordersOf1, true, "a", 2},
}

func TestOrdersOfDeclaring(t *testing.T) {
	for _, c := range orderings {
		checkOrdered(t, c.p, ordered{strings.Split(c.orders, " "), strings.Split(c.same, " "), c.nested, c.order, c.most})
		checkChapter11(t, c.p)
	}
}

// TestTooManyToOrder has programs that declare five or six variables in the outermost scope.
func TestTooManyToOrder(t *testing.T) {
	for _, c := range []struct {
		p      string
		nested bool
		most   int
	}{
		{"{abcde:}", true, 0}, {"{abcde:+a}", true, 1}, {"{edcba:+a+b}", false, 2}, {"{abcdef:+a+b+c+d+e+f}", true, 6}, {"{fedcba:+a+b+c+d+e+f}", false, 6},
		{"{fabcde:+f+a}", true, 2}, {"{abcdef:+f+a}", false, 2}, {"{abcde:{f:?[+f+a][]}}", false, 2}, {"{abcde:+a+b+a" + branches(7) + "}", true, 0}, {"{abcde:?[+c][+b+a^]}", false, 2},
	} {
		checkOrdered(t, c.p, ordered{nested: c.nested, most: c.most})
		checkChapter11(t, c.p)
	}
}

func TestWithOrder(t *testing.T) {
	for _, c := range []struct{ p, vars, text string }{
		{"{a:}", "a", "{a:}"}, {"{ab:+b+a}", "ba", "{ba:+b+a}"}, {"{ab:+b+a}", "ab", "{ab:+b+a}"}, {"{ba:}", "ab", "{ab:}"},
		{"{abc:+a{d:+d}}", "cab", "{cab:+a{d:+d}}"}, {"{fa:{bc:+b}{bc:+c}}", "af", "{af:{bc:+b}{bc:+c}}"}, {"{bd:*[{ca:=cb}]^}", "db", "{db:*[{ca:=cb}]^}"},
		{"{abcde:+a}", "edcba", "{edcba:+a}"}, {"{abcdef:}", "fedcba", "{fedcba:}"}, {"{fbdace:+f+e}", "abcdef", "{abcdef:+f+e}"},
		// Programs without short runs have orders too.
		{"{abc:+a+b" + branches(12) + "}", "bca", "{bca:+a+b" + branches(12) + "}"},
	} {
		checkWithOrder(t, c.p, c.vars, c.text, true)
	}
	for _, c := range []struct{ p, vars string }{
		{"{abc:}", ""}, {"{abc:}", "ab"}, {"{abc:}", "bc"}, {"{abc:}", "abb"}, {"{abc:}", "aab"}, {"{abc:}", "aaa"}, {"{abc:}", "abcd"}, {"{abc:}", "abcc"}, {"{abc:}", "abcabc"}, {"{abc:}", "abd"}, {"{abc:}", "def"},
		{"{abc:}", "ABC"}, {"{abc:}", "a b"}, {"{abc:}", "abc "}, {"{abc:}", "abc:"}, {"{abc:}", "{abc:}"}, {"{abc:}", "ab\x00"}, {"{abc:}", "abc\x00"}, {"{abc:}", "\x00abc"}, {"{abc:}", "ab\xe3"}, {"{abc:}", "abi"}, {"{a:}", "b"}, {"{a:}", "aa"}, {"{a:}", "a\x00\x00\x00\x00\x00"},
		{"{ab:}", strings.Repeat("ab", 1<<20)}, {"{abcdef:}", "abcdefg"}, {"{abcdef:}", "abcdefa"}, {"{abcdef:}", "fedcba\x00"}, {"{abcdef:}", "abcde"}, {"{abcdef:}", "abcdee"}, {"{abcdef:}", "abcdeg"},
		// Variables that scopes within the outermost one declare are none of its own.
		{"{ab:{c:}}", "abc"}, {"{ab:{c:}}", "bc"}, {"{ab:{c:}}", "c"}, {"{a:{b:}}", "b"},
	} {
		checkWithOrder(t, c.p, c.vars, "", false)
	}
}

func TestTextsWithoutOrders(t *testing.T) {
	for _, p := range noPrograms {
		checkNoOrders(t, p)
	}
	for b := range 256 {
		text := string([]byte{byte(b)})
		checkNoOrders(t, text)
		checkChapter11(t, "{ab:+a+b"+text+"}")
		checkChapter11(t, "{b"+text+":+b}")
		checkChapter11(t, "{"+text+":}")
	}
	for _, p := range []string{
		"{ab:+b" + strings.Repeat("+a", 37) + "^}",
		"{a:{b:{c:{d:{e:}}}}}", "{aba:+a+b}", "{ab:+a{a:}}", "{ab:+c}",
		"{ab:" + strings.Repeat("*[", 1<<20) + "^" + strings.Repeat("]", 1<<20) + "}",
		strings.Repeat("{ab:", 1<<20), strings.Repeat("ab", 1<<20),
	} {
		checkNoOrders(t, p)
	}
}

// TestLongProgramsInOrder has programs as long as they may be, with as many events and runs as there may be.
func TestLongProgramsInOrder(t *testing.T) {
	checkValid(t, checkChapter11,
		"{ab:+b"+strings.Repeat("+a", 36)+"!}",
		"{dcba:+d+c+b+a"+strings.Repeat("^", 65)+"}",
		"{abc:*["+strings.Repeat("+a", 33)+"]+c+b}",
		"{abcdef:*["+strings.Repeat("+a", 16)+strings.Repeat("+b", 17)+"]}",
		"{abcd:?[+d][]?[+c][]?[+b][]?[+a][]?[-b][]?[=cd][]}",
		"{abcd:*[?[+a][+b]?[+c][+d]]?[-a][]}",
		"{ab:"+strings.Repeat("*[", 22)+"+b+a^"+strings.Repeat("]", 22)+"+b.a}",
		"{cb:"+strings.Repeat("{a:+a}", 11)+"+b+c.c}",
		"{ab:+a{cd:+c?[+d][]?[^][]{ef:?[+e][]+f?[!][]-f?[^][]}}?[+b][]?[^][].b!}",
		"{abcdef:*[?[^][]?[=fe][]?[=ed][]?[=dc][]?[=cb][]?[=ba][]+a]!}",
	)
}

// TestOrdersOfTextsNextToPrograms leaves out, replaces and puts in bytes of programs.
func TestOrdersOfTextsNextToPrograms(t *testing.T) {
	list := programs
	for _, c := range orderings {
		if len(c.p) < 20 {
			list = append(list[:len(list):len(list)], c.p)
		}
	}
	for _, p := range list {
		for _, text := range textsNextTo(p, "^", "+a", "-b", "c") {
			checkChapter11(t, text)
		}
	}
}

func TestOrdersOfProgramsAtRandom(t *testing.T) {
	for _, p := range append(randomPrograms(t, 111, 150), programs...) {
		checkChapter11(t, p)
	}
	matter, otherwise, never := 0, 0, 0
	for _, p := range append(programsToOrder(t, 112, 1200, 3), programsToOrder(t, 113, 150, 6)...) {
		checkChapter11(t, p)
		if impl.OrderMatters(p) {
			matter++
		}
		_, isAny := impl.NestedOrder(p)
		if isAny && !impl.IsNested(p) {
			otherwise++
		}
		if !isAny && len(declaredBy(p)) <= 4 {
			never++
		}
	}
	if matter < 250 || otherwise < 50 || never < 150 {
		t.Errorf("%d programs whose order matters, %d nested with another one, %d with none", matter, otherwise, never)
	}
}

// TestProgramsInAnyOrder has what promise 11 tells.
func TestProgramsInAnyOrder(t *testing.T) {
	random := rand.New(rand.NewSource(114))
	for _, c := range orderings {
		checkOrdersAgree(t, random, c.p)
	}
	for _, p := range programsToOrder(t, 115, 150, 3) {
		checkOrdersAgree(t, random, p)
	}
}

// TestOrdersAreToldAgain calls functions on one processor and on many, as results must not depend on which run is done first.
func TestOrdersAreToldAgain(t *testing.T) {
	defer runtime.GOMAXPROCS(runtime.GOMAXPROCS(0))
	for _, processors := range []int{1, 2, 16} {
		runtime.GOMAXPROCS(processors)
		for range 10 {
			for _, p := range []string{"{ab:?[+a+b][+b+a]}", "{abc:*[?[+a][+b]]+c}", "{ab:?[][]?[][]?[][]?[][]?[][]?[+b+a][+a+b-a]}"} {
				checkOrdered(t, p, orderedOf(p))
			}
		}
	}
}

// TestRunsAreJoined tells whether goroutines are left when functions have returned.
func TestRunsAreJoined(t *testing.T) {
	before := runtime.NumGoroutine()
	for _, c := range orderings {
		impl.IsNested(c.p)
		impl.NestedOrder(c.p)
		impl.MostInRuns(c.p)
	}
	// A goroutine that has told that it is done may take a moment until it is gone.
	for range 200 {
		if runtime.NumGoroutine() <= before {
			return
		}
		time.Sleep(5 * time.Millisecond)
	}
	t.Errorf("%d goroutines, %d before", runtime.NumGoroutine(), before)
}

func TestListsOfOrdersShareNoMemory(t *testing.T) {
	p := "{abc:+b+c}"
	orders, _ := impl.OrdersOf(p)
	same, _ := impl.SameOrders(p)
	for _, list := range [][]string{orders[:cap(orders)], same[:cap(same)]} {
		for i := range list {
			list[i] = "x"
		}
	}
	checkChapter11(t, p)
}

func TestTextsOfOrdersShareNoMemory(t *testing.T) {
	for _, p := range []string{"{ab:+a+b}", "{abc:}", "{abcd:+a}"} {
		vars := declaredBy(p)
		text, one := impl.WithOrder(p, vars)
		order, two := impl.NestedOrder(p)
		orders, three := impl.OrdersOf(p)
		same, four := impl.SameOrders(p)
		for _, got := range slices.Concat([]string{text, order}, orders, same) {
			at := uintptr(unsafe.Pointer(unsafe.StringData(got)))
			from := uintptr(unsafe.Pointer(unsafe.StringData(p)))
			if at >= from && at < from+uintptr(len(p)) || !one || !two || !three || !four {
				t.Errorf("%q shares the memory of %q: %v, %v, %v, %v", got, p, one, two, three, four)
			}
		}
	}
}
