package tests

import (
	"math/rand"
	"slices"
	"strconv"
	"strings"
	"testing"

	"loop.example/endsoflife/impl"
)

// rooms are texts of events and what chapter 8 says of them.
var rooms = []struct {
	text string
	kept kept
}{
	{"-", kept{nil, nil, nil, 0, 0, "-"}},

	// Ordinary ones.
	{"+1 +2 -1 +3 -2", kept{[]int{0, 1, 0}, []int{0, 1, 2}, []int{3}, 2, 3, "1 .;1 2;. 2;3 2;3 ."}},
	{"+1 -1", kept{[]int{0}, []int{0}, nil, 1, 1, "1;."}},
	{"+1 .1 .1 -1", kept{[]int{0}, []int{0}, nil, 1, 1, "1;1;1;."}},
	{"+1 -1 +2 -2", kept{[]int{0, 0}, []int{0, 0}, []int{2}, 1, 1, "1;.;2;."}},
	{"+1 +2 .1 -2 .1 -1", kept{[]int{0, 1}, []int{0, 1}, nil, 2, 2, "1 .;1 2;1 2;1 .;1 .;. ."}},
	{"+1 +2 -2 +3 -3 -1", kept{[]int{0, 1, 1}, []int{0, 1, 1}, []int{3}, 2, 2, "1 .;1 2;1 .;1 3;1 .;. ."}},

	// Values that are never destroyed.
	{"+1", kept{[]int{0}, []int{0}, nil, 1, 1, "1"}},
	{"+1 +2 +3", kept{[]int{0, 1, 2}, []int{0, 1, 2}, nil, 3, 3, "1 . .;1 2 .;1 2 3"}},
	{"+1 -1 +2", kept{[]int{0, 0}, []int{0, 0}, []int{2}, 1, 1, "1;.;2"}},
	{"+1 +2 -1 +3 .2 .3", kept{[]int{0, 1, 0}, []int{0, 1, 2}, []int{3}, 2, 3, "1 .;1 2;. 2;3 2;3 2;3 2"}},
	{"+1 +2 -2 +3 +4 -3", kept{[]int{0, 1, 1, 2}, []int{0, 1, 1, 2}, []int{3}, 3, 3, "1 . .;1 2 .;1 . .;1 3 .;1 3 4;1 . 4"}},

	// Cells that get free below others: one, several in one order or the other, and not all of them taken again.
	{"+1 +2 +3 -1 +4", kept{[]int{0, 1, 2, 0}, []int{0, 1, 2, 3}, []int{4}, 3, 4, "1 . .;1 2 .;1 2 3;. 2 3;4 2 3"}},
	{"+1 +2 +3 -2 +4 -4 -1 +5", kept{[]int{0, 1, 2, 1, 0}, []int{0, 1, 2, 3, 3}, []int{4, 5}, 3, 4, "1 . .;1 2 .;1 2 3;1 . 3;1 4 3;1 . 3;. . 3;5 . 3"}},
	{"+1 +2 +3 -1 -2 +4 +5 +6", kept{[]int{0, 1, 2, 0, 1, 3}, []int{0, 1, 2, 3, 4, 5}, []int{4}, 4, 6, "1 . . .;1 2 . .;1 2 3 .;. 2 3 .;. . 3 .;4 . 3 .;4 5 3 .;4 5 3 6"}},
	{"+1 +2 +3 -2 -1 +4 +5 +6", kept{[]int{0, 1, 2, 0, 1, 3}, []int{0, 1, 2, 3, 4, 5}, []int{4}, 4, 6, "1 . . .;1 2 . .;1 2 3 .;1 . 3 .;. . 3 .;4 . 3 .;4 5 3 .;4 5 3 6"}},

	// Cells that get free on top of a stack, with free ones below or without.
	{"+1 +2 +3 -2 -3 +4", kept{[]int{0, 1, 2, 1}, []int{0, 1, 2, 1}, []int{4}, 3, 3, "1 . .;1 2 .;1 2 3;1 . 3;1 . .;1 4 ."}},
	{"+1 +2 +3 -3 -2 +4", kept{[]int{0, 1, 2, 1}, []int{0, 1, 2, 1}, []int{4}, 3, 3, "1 . .;1 2 .;1 2 3;1 2 .;1 . .;1 4 ."}},
	{"+1 +2 +3 -1 -3 +4", kept{[]int{0, 1, 2, 0}, []int{0, 1, 2, 2}, []int{4}, 3, 3, "1 . .;1 2 .;1 2 3;. 2 3;. 2 .;4 2 ."}},
	{"+1 +2 -1 -2 +3", kept{[]int{0, 1, 0}, []int{0, 1, 0}, []int{3}, 2, 2, "1 .;1 2;. 2;. .;3 ."}},
	{"+1 +2 -1 +3 -2 +4 -3 +5", kept{[]int{0, 1, 0, 1, 0}, []int{0, 1, 2, 3, 4}, []int{3, 4, 5}, 2, 5, "1 .;1 2;. 2;3 2;3 .;3 4;. 4;5 4"}},

	// What is made is right behind what is destroyed, or something else is in between or ahead of it.
	{"+1 +2 -1 .2 +3", kept{[]int{0, 1, 0}, []int{0, 1, 2}, nil, 2, 3, "1 .;1 2;. 2;. 2;3 2"}},
	{"+1 +2 -1 +3 +4", kept{[]int{0, 1, 0, 2}, []int{0, 1, 2, 3}, []int{3}, 3, 4, "1 . .;1 2 .;. 2 .;3 2 .;3 2 4"}},
	{"+1 +2 -2 .1 +3 -3 +4", kept{[]int{0, 1, 1, 1}, []int{0, 1, 1, 1}, []int{4}, 2, 2, "1 .;1 2;1 .;1 .;1 3;1 .;1 4"}},

	// Numbers and cells of more than one digit.
	{"+1 +2 +3 +4 +5 +6 +7 +8 +9 +10 +11 -10 -2 +12 +13 -11 -1 +14", kept{
		[]int{0, 1, 2, 3, 4, 5, 6, 7, 8, 9, 10, 1, 9, 0}, []int{0, 1, 2, 3, 4, 5, 6, 7, 8, 9, 10, 11, 12, 13}, []int{12, 14}, 11, 14,
		"1 . . . . . . . . . .;1 2 . . . . . . . . .;1 2 3 . . . . . . . .;1 2 3 4 . . . . . . .;1 2 3 4 5 . . . . . .;1 2 3 4 5 6 . . . . .;" +
			"1 2 3 4 5 6 7 . . . .;1 2 3 4 5 6 7 8 . . .;1 2 3 4 5 6 7 8 9 . .;1 2 3 4 5 6 7 8 9 10 .;1 2 3 4 5 6 7 8 9 10 11;" +
			"1 2 3 4 5 6 7 8 9 . 11;1 . 3 4 5 6 7 8 9 . 11;1 12 3 4 5 6 7 8 9 . 11;1 12 3 4 5 6 7 8 9 13 11;" +
			"1 12 3 4 5 6 7 8 9 13 .;. 12 3 4 5 6 7 8 9 13 .;14 12 3 4 5 6 7 8 9 13 .",
	}},
}

func TestCellsOfEvents(t *testing.T) {
	for _, c := range rooms {
		checkKept(t, c.text, c.kept)
		checkChapter8(t, c.text)
	}
	for _, c := range events {
		checkChapter8(t, c.text)
	}
}

func TestCellsThatFit(t *testing.T) {
	for _, c := range []struct {
		text  string
		cells []int
		fit   bool
	}{
		// No values.
		{"-", nil, true}, {"-", []int{}, true}, {"-", []int{0}, false}, {"-", []int{-1}, false},

		// Any cells from 0 on.
		{"+1", []int{0}, true}, {"+1", []int{7}, true}, {"+1", []int{600}, true}, {"+1", []int{1<<63 - 1}, true},
		{"+1 +2", []int{1<<63 - 1, 0}, true}, {"+1 +2", []int{0, 1 << 32}, true}, {"+1 +2", []int{5, 1<<32 + 5}, true}, {"+1 +2", []int{1<<63 - 1, 1<<63 - 1}, false},

		// Too short, too long.
		{"+1", nil, false}, {"+1", []int{0, 1}, false}, {"+1 +2", []int{0}, false}, {"+1 +2", nil, false}, {"+1 +2", []int{0, 1, 2}, false}, {"+1 -1", nil, false}, {"+1 -1 +2", []int{0}, false}, {"+1 -1 +2", []int{0, 0, 0}, false},

		// Negative numbers, the first one and the last one, also of values that are destroyed.
		{"+1", []int{-1}, false}, {"+1 -1", []int{-1}, false}, {"+1", []int{-1 << 63}, false}, {"+1 +2", []int{-1, 0}, false}, {"+1 +2", []int{0, -1}, false}, {"+1 -1 +2", []int{-1, 0}, false}, {"+1 -1 +2", []int{0, -5}, false}, {"+1 +2 +3", []int{0, -1, 2}, false},

		// One of two in one cell is destroyed before the other one is made.
		{"+1 -1 +2", []int{0, 0}, true}, {"+1 -1 +2 -2", []int{9, 9}, true}, {"+1 +2 -1 +3", []int{0, 1, 0}, true}, {"+1 +2 -1 .2 +3", []int{4, 0, 4}, true}, {"+1 -1 +2 -2 +3", []int{3, 3, 3}, true}, {"+1 +2 -2 +3", []int{1, 0, 0}, true},

		// It is not, or only later.
		{"+1 +2", []int{0, 0}, false}, {"+1 +2 -1", []int{0, 0}, false}, {"+1 +2 -1 -2", []int{0, 0}, false}, {"+1 +2 -2 -1", []int{1, 1}, false}, {"+1 +2 -2", []int{2, 2}, false}, {"+1 .1 +2 .2 -1", []int{0, 0}, false},
		{"+1 +2 -1 +3", []int{0, 1, 1}, false}, {"+1 +2 -2 +3", []int{0, 1, 0}, false}, {"+1 -1 +2 +3", []int{0, 0, 0}, false}, {"+1 +2 -2 +3 -3", []int{0, 1, 0}, false}, {"+1 -1 +2 +3 -2", []int{5, 0, 0}, false}, {"+1 +2 +3", []int{0, 1, 0}, false}, {"+1 +2 +3", []int{1, 0, 0}, false},
		{"+1 +2 -1 +3 +4", []int{0, 1, 0, 0}, false}, {"+1 +2 -1 +3 -3 +4", []int{0, 1, 0, 0}, true}, {"+1 +2 -1 +3 -3 +4", []int{0, 1, 0, 1}, false},

		// Events that are not valid.
		{"x", nil, false}, {"", nil, false}, {"", []int{0}, false}, {"+2", []int{0}, false}, {"+2", []int{0, 1}, false}, {"+1 +1", []int{0, 1}, false}, {"+1 -2", []int{0}, false}, {"+1 ", []int{0}, false}, {"+1 -1 -1", []int{0}, false}, {"--", nil, false},
	} {
		checkFit(t, c.text, c.cells, c.fit)
	}
}

func TestTextsThatHaveNoRoom(t *testing.T) {
	for _, text := range append(noEvents, programs...) {
		checkNoRoom(t, text)
		for _, other := range []string{"+1 " + text, "+1 +2 -1 " + text + " +3", text + " +1", text + " " + text} {
			checkChapter8(t, other)
		}
	}
	for _, words := range [][]string{wordsAtRandom(rand.New(rand.NewSource(81)), 20), goneWords(8)} {
		for _, text := range textsNextTo(textOfWords(words), "+", ".", "-", "0", "1", " ", " .1", "-2 ", "\x00") {
			checkChapter8(t, text)
		}
	}
	for _, text := range []string{strings.Repeat(" ", 1<<20), strings.Repeat("- ", 1<<20) + "-", "+" + strings.Repeat("1", 1<<20), "+1" + strings.Repeat(" .1", 1<<20)} {
		checkNoRoom(t, text)
	}
}

// steppingWords returns words in which each value is destroyed right behind the next one being made, so that a stack
// never gets shorter.
func steppingWords(count int) []string {
	words := []string{"+1"}
	for value := 2; value <= count; value++ {
		words = append(words, "+"+strconv.Itoa(value), "-"+strconv.Itoa(value-1))
	}
	return words
}

func TestRoomOfTheMostEvents(t *testing.T) {
	late := madeUpTo(300)
	for value := 300; value > 0; value-- {
		late = append(late, "-"+strconv.Itoa(value))
	}
	for _, c := range []struct {
		words       []string
		count, high int
	}{
		{madeUpTo(600), 600, 600}, {madeUpTo(599), 599, 599}, {goneWords(300), 1, 1}, {steppingWords(300), 2, 300}, {late, 300, 300},
		{append(madeUpTo(599), "-1"), 599, 599}, {append(madeUpTo(598), "-1", "+599"), 598, 599}, {append(madeUpTo(598), "-598", "+599"), 598, 598},
	} {
		text := textOfWords(c.words)
		if impl.CountCells(text) != c.count || impl.CountStack(text) != c.high {
			t.Errorf("%.90q: %d, %d, not %d, %d", text, impl.CountCells(text), impl.CountStack(text), c.count, c.high)
		}
		checkChapter8(t, text)
	}
	for _, words := range [][]string{madeUpTo(601), append(goneWords(300), "+301"), steppingWords(301), append(late, "+301"), append(madeUpTo(600), "-1")} {
		checkNoRoom(t, textOfWords(words))
		cells := make([]int, 601)
		for i := range cells {
			cells[i] = i
		}
		for _, count := range []int{300, 301, 600, 601} {
			checkFit(t, textOfWords(words), cells[:count], false)
		}
	}
}

func TestRoomAtRandom(t *testing.T) {
	random := rand.New(rand.NewSource(82))
	for range 1500 {
		checkChapter8(t, textOfWords(wordsAtRandom(random, 1+random.Intn(30))))
	}
	for _, count := range []int{100, 300, 599, 600, 601} {
		checkChapter8(t, textOfWords(wordsAtRandom(random, count)))
	}
}

// TestRoomOfManyValues has events with many values alive at once, so that many cells are free below others.
func TestRoomOfManyValues(t *testing.T) {
	random := rand.New(rand.NewSource(83))
	for range 60 {
		made := 5 + random.Intn(60)
		words := madeUpTo(made)
		for _, i := range random.Perm(made)[:random.Intn(made)] {
			words = append(words, "-"+strconv.Itoa(i+1))
		}
		words = append(words, madeUpTo(made + random.Intn(60))[made:]...)
		checkChapter8(t, textOfWords(words))
	}
}

func TestCellsAtRandom(t *testing.T) {
	random := rand.New(rand.NewSource(84))
	fits, misfits := 0, 0
	for range 400 {
		words := wordsAtRandom(random, 1+random.Intn(16))
		text := textOfWords(words)
		e := keptOf(words)
		lists := append(cellsNextTo(random, e.cells), cellsNextTo(random, e.stack)...)
		for range 20 {
			cells := make([]int, len(e.cells))
			for i := range cells {
				cells[i] = random.Intn(4)
			}
			lists = append(lists, cells)
		}
		for _, cells := range lists {
			fit := fitWords(words, cells)
			checkFit(t, text, cells, fit)
			if fit {
				fits++
			} else {
				misfits++
			}
		}
	}
	if fits < 1000 || misfits < 1000 {
		t.Errorf("%d lists fit, %d don't", fits, misfits)
	}
}

// TestRoomOfRuns has what programs do, which may be more events than are valid.
func TestRoomOfRuns(t *testing.T) {
	for _, text := range eventsOfRuns(t, 85, 300) {
		checkChapter8(t, text)
		if early, ok := impl.EarlyEvents(text); ok {
			checkChapter8(t, early)
		}
	}
	long := "{a:*[" + strings.Repeat("+a", 30) + "]}"
	// Each value is destroyed ahead of the next one being made; eleven turns have more than MaxEvents events.
	for turns, count := range map[int]int{0: 0, 9: 1, 10: 1, 11: -1} {
		text, _ := impl.EventsOf(long, strings.Repeat("m", turns)+"e")
		if impl.CountCells(text) != count || impl.CountStack(text) != count {
			t.Errorf("%d turns: %d, %d", turns, impl.CountCells(text), impl.CountStack(text))
		}
		checkChapter8(t, text)
	}
}

func TestListsOfChapter8ShareNoMemory(t *testing.T) {
	text := "+1 +2 -1 +3 -2 +4 -3 +5"
	cells, _ := impl.CellsFor(text)
	stack, _ := impl.StackCells(text)
	reuses, _ := impl.ReusesOf(text)
	for _, list := range [][]int{cells, stack, reuses} {
		list = list[:cap(list)]
		for i := range list {
			list[i] = -7
		}
	}
	checkChapter8(t, text)
}

func TestCellsAreNotModified(t *testing.T) {
	for _, c := range []struct {
		text  string
		count int
	}{{"+1 +2 -1 +3", 3}, {"+1 +2 -1 +3", 2}, {"+1 +2 -1 +3 +4", 4}, {"-", 0}, {"x", 3}} {
		cells := []int{3, 1, 3, 2, 9, 8}
		impl.CellsFit(c.text, cells[:c.count])
		if !slices.Equal(cells, []int{3, 1, 3, 2, 9, 8}) {
			t.Errorf("CellsFit(%q, ..) leaves %v", c.text, cells)
		}
	}
}
