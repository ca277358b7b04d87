package tests

import (
	"math/rand"
	"slices"
	"strconv"
	"strings"
	"testing"

	"loop.example/endsoflife/impl"
)

// events are texts of events and what chapter 7 says of them.
var events = []struct {
	text string
	told told
}{
	{"-", told{nil, 0, true, 0, nil, "-"}},

	// Ordinary ones.
	{"+1 +2 .1 -2 -1", told{[][3]int{{0, 2, 4}, {1, 1, 3}}, 2, true, 2, nil, "+1 +2 -2 .1 -1"}},
	{"+1 .1 .1 -1", told{[][3]int{{0, 2, 3}}, 1, true, 0, nil, "+1 .1 .1 -1"}},
	{"+1 +2 .1 .2 .1 -1 -2", told{[][3]int{{0, 4, 5}, {1, 3, 6}}, 2, false, 2, nil, "+1 +2 .1 .2 -2 .1 -1"}},
	{"+1 .1 +2 .2 -2 -1", told{[][3]int{{0, 1, 5}, {2, 3, 4}}, 2, true, 3, nil, "+1 .1 -1 +2 .2 -2"}},
	{"+1 +2 +3 .2 .1 -3 -1 -2", told{[][3]int{{0, 4, 6}, {1, 3, 7}, {2, 2, 5}}, 3, false, 6, nil, "+1 +2 +3 -3 .2 -2 .1 -1"}},

	// Values that are never used.
	{"+1 -1", told{[][3]int{{0, 0, 1}}, 1, true, 0, nil, "+1 -1"}},
	{"+1 +2 -1 -2", told{[][3]int{{0, 0, 2}, {1, 1, 3}}, 2, false, 2, nil, "+1 -1 +2 -2"}},
	{"+1 +2 -2 -1", told{[][3]int{{0, 0, 3}, {1, 1, 2}}, 2, true, 2, nil, "+1 -1 +2 -2"}},
	{"+1 -1 +2 -2 +3 -3", told{[][3]int{{0, 0, 1}, {2, 2, 3}, {4, 4, 5}}, 1, true, 0, nil, "+1 -1 +2 -2 +3 -3"}},
	{"+1 +2 .2 .2 -1 -2", told{[][3]int{{0, 0, 4}, {1, 3, 5}}, 2, false, 4, nil, "+1 -1 +2 .2 .2 -2"}},

	// Values that are left over, used or not: they count for what is nested only while others are destroyed.
	{"+1", told{[][3]int{{0, 0, -1}}, 1, true, 0, []int{1}, "+1"}},
	{"+1 .1 .1", told{[][3]int{{0, 2, -1}}, 1, true, 0, []int{1}, "+1 .1 .1"}},
	{"+1 +2 +3 -3", told{[][3]int{{0, 0, -1}, {1, 1, -1}, {2, 2, 3}}, 3, true, 0, []int{1, 2}, "+1 +2 +3 -3"}},
	{"+1 +2 -1", told{[][3]int{{0, 0, 2}, {1, 1, -1}}, 2, false, 1, []int{2}, "+1 -1 +2"}},
	{"+1 -1 +2", told{[][3]int{{0, 0, 1}, {2, 2, -1}}, 1, true, 0, []int{2}, "+1 -1 +2"}},
	{"+1 +2 +3 .1 -2 .3", told{[][3]int{{0, 3, -1}, {1, 1, 4}, {2, 5, -1}}, 3, false, 2, []int{1, 3}, "+1 +2 -2 +3 .1 .3"}},
	{"+1 .1 +2 .2 .1", told{[][3]int{{0, 4, -1}, {2, 3, -1}}, 2, true, 0, []int{1, 2}, "+1 .1 +2 .2 .1"}},

	// What is destroyed is the one made last of those alive, although some that are gone were made later.
	{"+1 +2 -2 +3 -3 -1", told{[][3]int{{0, 0, 5}, {1, 1, 2}, {3, 3, 4}}, 2, true, 4, nil, "+1 -1 +2 -2 +3 -3"}},
	{"+1 +2 +3 -2 -3 -1", told{[][3]int{{0, 0, 5}, {1, 1, 3}, {2, 2, 4}}, 3, false, 6, nil, "+1 -1 +2 -2 +3 -3"}},
	{"+1 +2 +3 -3 -1 -2", told{[][3]int{{0, 0, 4}, {1, 1, 5}, {2, 2, 3}}, 3, false, 6, nil, "+1 -1 +2 -2 +3 -3"}},
	{"+1 +2 -1 +3 -3 -2", told{[][3]int{{0, 0, 2}, {1, 1, 5}, {3, 3, 4}}, 2, false, 4, nil, "+1 -1 +2 -2 +3 -3"}},

	// Most are alive at the beginning, in between, at the end.
	{"+1 +2 -2 -1 +3 -3", told{[][3]int{{0, 0, 3}, {1, 1, 2}, {4, 4, 5}}, 2, true, 2, nil, "+1 -1 +2 -2 +3 -3"}},
	{"+1 -1 +2 +3 +4 -4 -3 .2 -2", told{[][3]int{{0, 0, 1}, {2, 7, 8}, {3, 3, 6}, {4, 4, 5}}, 3, true, 2, nil, "+1 -1 +2 +3 -3 +4 -4 .2 -2"}},
	{"+1 -1 +2 +3", told{[][3]int{{0, 0, 1}, {2, 2, -1}, {3, 3, -1}}, 2, true, 0, []int{2, 3}, "+1 -1 +2 +3"}},

	// Numbers of more than one digit, with which that of another value begins.
	{"+1 +2 +3 +4 +5 +6 +7 +8 +9 +10 .1 .10 -10 -1", told{
		[][3]int{{0, 10, 13}, {1, 1, -1}, {2, 2, -1}, {3, 3, -1}, {4, 4, -1}, {5, 5, -1}, {6, 6, -1}, {7, 7, -1}, {8, 8, -1}, {9, 11, 12}},
		10, false, 2, []int{2, 3, 4, 5, 6, 7, 8, 9}, "+1 +2 +3 +4 +5 +6 +7 +8 +9 +10 .1 -1 .10 -10",
	}},
}

func TestLivesOfEvents(t *testing.T) {
	for _, c := range events {
		checkTold(t, c.text, c.told)
		checkChapter7(t, c.text)
	}
}

func TestValuesAlive(t *testing.T) {
	for _, c := range []struct {
		text  string
		alive [][]int
	}{
		{"-", nil},
		{"+1", [][]int{{1}}},
		{"+1 -1", [][]int{{1}, {}}},
		{"+1 +2 .1 -2 .1 -1", [][]int{{1}, {1, 2}, {1, 2}, {1}, {1}, {}}},
		{"+1 -1 +2 -2", [][]int{{1}, {}, {2}, {}}},
		{"+1 +2 +3 -2 +4 -1 .3 -4", [][]int{{1}, {1, 2}, {1, 2, 3}, {1, 3}, {1, 3, 4}, {3, 4}, {3, 4}, {3}}},
	} {
		for k, alive := range c.alive {
			checkAlive(t, c.text, k, alive, true)
		}
		for _, k := range append(indicesOfNone, len(c.alive), len(c.alive)+1, 1<<32+len(c.alive)-1) {
			checkAlive(t, c.text, k, nil, false)
		}
	}
}

// noEvents are texts that are not ones of events.
var noEvents = []string{
	// Spaces where none belong, or something else.
	"", " ", "  ", "+1 ", " +1", "+1  -1", "+ 1", "+1 - 1", "+1 .1 -1 ", "- ", " -", "- -", "\n", "-\n", "+1\n", "+1\n-1", "+1\t-1", "+1\r\n", "+1\u00a0-1", "+1,-1", "+1-1", "+1.1-1",

	// No events at all are written alone.
	"--", "- +1", "+1 -", "+1 - -1", "+1 -1 -",

	// Kinds and numbers that are none.
	"+", ".", "+1 .", "1", "+1 1", "*1", "=1", "~1", "+1 ~1", "+1 !1", "+a", "+1 .a", "+1a", "+1 .1a", "x", "+x1", "1+", "+1 1-", "\x00", "+\x00", "+1\x00", "+1 .1\xff", "\xff1", "＋1", "+１",

	// Numbers that are not in decimal.
	"+01", "+001", "+1 .01", "+1 -01", "+1 .1 -001", "++1", "+1 .+1", "+1 -+1", "+1 .-1", "+1 --1", "+-1", "+1.0", "+1 .1.0", "+0x1", "+0b1", "+0o1", "+1e0", "+1 .1e0", "+1_0", "+1 .0_1", "+1 -1_", "+I", "+¹",

	// Numbers out of their order.
	"+0", "+1 +0", "+2", "+2 +1", "+1 +1", "+1 +3", "+1 +3 +2", "+1 +2 +2", "+1 +2 +1", "+1 -1 +1", "+1 -1 +3", "+1 -1 +2 +2", "+-0", "+1 +-2", "+10",

	// Values used or destroyed ahead of being made, or never made.
	".1", "-1", ".0", "-0", "+1 .0", "+1 -0", ".1 +1", "-1 +1", "+1 .2", "+1 -2", "+1 .2 +2", "+1 -2 +2", "+1 .1 -1 +2 .3 +3", "+1 .10", "+1 -11", "--1", ".-1", "-1 -1",

	// Values used or destroyed behind being destroyed.
	"+1 -1 .1", "+1 -1 -1", "+1 .1 -1 .1", "+1 -1 +2 .1", "+1 -1 +2 -1", "+1 +2 -1 .2 .1", "+1 +2 -2 -1 -2",

	// Numbers that are too great for some types, or would be others in them.
	"+257", "+65537", "+4294967297", "+18446744073709551617", "+1 .257", "+1 -4294967297", "+1 .18446744073709551617", "+1 -18446744073709551617", "+1 .-18446744073709551615", "+99999999999999999999999999", "+1 .9223372036854775807", "+1 .9223372036854775808", "+1 --9223372036854775808", "+9223372036854775807",
}

func TestTextsThatAreNotEvents(t *testing.T) {
	for _, text := range noEvents {
		checkNoEvents(t, text)
		checkChapter7(t, text)
		// Behind other events and ahead of others.
		for _, other := range []string{"+1 " + text, "+1 " + text + " -1", "+1 -1 " + text, text + " +1", text + " .1", text + " " + text} {
			checkChapter7(t, other)
		}
	}
	for b := range 256 {
		text := string([]byte{byte(b)})
		for _, other := range []string{text, text + "1", "+" + text, "+1" + text, "+1 " + text + "1", "+1 ." + text, "+1 -1" + text, "+1" + text + "-1", text + "+1"} {
			checkChapter7(t, other)
		}
	}
	for _, p := range programs {
		checkNoEvents(t, p)
	}
}

// madeUpTo returns words in which that many values are made.
func madeUpTo(count int) []string {
	var words []string
	for value := 1; value <= count; value++ {
		words = append(words, "+"+strconv.Itoa(value))
	}
	return words
}

// goneWords returns words in which that many values are made and destroyed at once.
func goneWords(count int) []string {
	var words []string
	for _, word := range madeUpTo(count) {
		words = append(words, word, "-"+word[1:])
	}
	return words
}

func TestLimitOfEvents(t *testing.T) {
	if impl.MaxEvents != 600 {
		t.Error("MaxEvents")
	}
	backward, forward := madeUpTo(300), madeUpTo(300)
	for value := 1; value <= 300; value++ {
		backward = append(backward, "-"+strconv.Itoa(301-value))
		forward = append(forward, "-"+strconv.Itoa(value))
	}
	used := textOfWords(append([]string{"+1"}, slices.Repeat([]string{".1"}, 598)...))
	for _, text := range []string{
		textOfWords(madeUpTo(599)), textOfWords(madeUpTo(600)), textOfWords(goneWords(300)), textOfWords(backward), textOfWords(forward),
		used, used + " -1", used + " .1", used + " +2",
	} {
		if !impl.EventsValid(text) {
			t.Errorf("EventsValid(%.90q) = false", text)
		}
		checkChapter7(t, text)
	}
	for _, text := range []string{
		textOfWords(madeUpTo(601)), textOfWords(madeUpTo(600)) + " -1", textOfWords(madeUpTo(600)) + " .600", textOfWords(goneWords(300)) + " +301",
		textOfWords(backward) + " +301", textOfWords(forward) + " +301", used + " .1 -1", used + " .1 .1", used + " -1 +2", used + " .1 ", used + " .1 x",
		textOfWords(madeUpTo(1000)), textOfWords(goneWords(10000)),
	} {
		checkNoEvents(t, text)
		checkChapter7(t, text)
	}
}

// TestLongTextsAsEvents has texts of a megabyte and more.
func TestLongTextsAsEvents(t *testing.T) {
	for _, text := range []string{
		strings.Repeat(" ", 1<<20), strings.Repeat("-", 1<<20), strings.Repeat("- ", 1<<20) + "-", "+" + strings.Repeat("1", 1<<20), "+1 ." + strings.Repeat("0", 1<<20) + "1",
		"+1" + strings.Repeat(" .1", 1<<20), strings.Repeat("\x00", 1<<20), "+1 " + strings.Repeat("+", 1<<20),
	} {
		checkNoEvents(t, text)
	}
}

func TestEventsAtRandom(t *testing.T) {
	random := rand.New(rand.NewSource(71))
	for range 1500 {
		words := wordsAtRandom(random, 1+random.Intn(30))
		if _, ok := wordsOfEvents(textOfWords(words)); !ok {
			t.Errorf("%q is not valid", words)
		}
		checkChapter7(t, textOfWords(words))
		checkEarly(t, textOfWords(words))
	}
	for _, count := range []int{100, 300, 599, 600, 601} {
		checkChapter7(t, textOfWords(wordsAtRandom(random, count)))
	}
}

// TestTextsNextToEvents leaves out, replaces, puts in and trades words and bytes of events.
func TestTextsNextToEvents(t *testing.T) {
	random := rand.New(rand.NewSource(72))
	list := [][]string{wordsAtRandom(random, 8), wordsAtRandom(random, 25), wordsAtRandom(random, 40), goneWords(12)}
	for _, c := range events {
		if c.text != "-" {
			list = append(list, strings.Split(c.text, " "))
		}
	}
	for _, words := range list {
		for _, other := range wordsNextTo(words) {
			checkChapter7(t, textOfWords(other))
		}
		for _, text := range textsNextTo(textOfWords(words), "+", ".", "-", "0", "1", "2", "3", " ", " .1", "-2 ", "+3 ", "\x00") {
			checkChapter7(t, text)
		}
	}
}

// checkEarly tells what promise 7 says of events.
func checkEarly(t *testing.T, text string) {
	t.Helper()
	early, ok := impl.EarlyEvents(text)
	if !ok || impl.IdleOf(early) != 0 || impl.MostAlive(early) > impl.MostAlive(text) {
		t.Errorf("EarlyEvents(%.90q) = %q, %v: %d, %d", text, early, ok, impl.IdleOf(early), impl.MostAlive(early))
	}
	if again, ok := impl.EarlyEvents(early); again != early || !ok || (impl.IdleOf(text) == 0) != (early == text) {
		t.Errorf("EarlyEvents(%q) = %q, %v, from %.90q", early, again, ok, text)
	}
	lives, _ := impl.LivesOf(text)
	livesOfEarly, _ := impl.LivesOf(early)
	left, _ := impl.LeftOver(text)
	leftOfEarly, _ := impl.LeftOver(early)
	if len(lives) != len(livesOfEarly) || !slices.Equal(left, leftOfEarly) {
		t.Errorf("EarlyEvents(%.90q) = %q: %v, %v", text, early, livesOfEarly, leftOfEarly)
	}
	words, wordsOfEarly := strings.Split(text, " "), strings.Split(early, " ")
	isEnd := func(word string) bool { return word[0] == '-' }
	if !slices.Equal(slices.DeleteFunc(slices.Clone(words), isEnd), slices.DeleteFunc(slices.Clone(wordsOfEarly), isEnd)) {
		t.Errorf("EarlyEvents(%.90q) = %q: others are not as they were", text, early)
	}
	slices.Sort(words)
	slices.Sort(wordsOfEarly)
	if !slices.Equal(words, wordsOfEarly) {
		t.Errorf("EarlyEvents(%.90q) = %q: others than they were", text, early)
	}
}

// TestEventsOfRuns has what programs do, which has no limit of events.
func TestEventsOfRuns(t *testing.T) {
	for _, text := range eventsOfRuns(t, 73, 400) {
		checkChapter7(t, text)
		if len(strings.Fields(text)) <= 600 {
			checkEarly(t, text)
		}
	}
	long := "{a:*[" + strings.Repeat("+a", 30) + "]}"
	for turns, valid := range map[int]bool{9: true, 10: true, 11: false, 19: false} {
		text, _ := impl.EventsOf(long, strings.Repeat("m", turns)+"e")
		if impl.EventsValid(text) != valid {
			t.Errorf("EventsValid of %d turns is not %v", turns, valid)
		}
		checkChapter7(t, text)
	}
}

func TestListsOfChapter7ShareNoMemory(t *testing.T) {
	text := "+1 +2 +3 .2 -2 +4 .4 -4"
	lives, _ := impl.LivesOf(text)
	lives = lives[:cap(lives)]
	for i := range lives {
		lives[i] = impl.Life{Born: -7, Used: -7, Died: -7}
	}
	left, _ := impl.LeftOver(text)
	alive, _ := impl.AliveAt(text, 5)
	for _, list := range [][]int{left[:cap(left)], alive[:cap(alive)]} {
		for i := range list {
			list[i] = -7
		}
	}
	checkChapter7(t, text)
}
