package tests

import (
	"math/rand"
	"slices"
	"strconv"
	"strings"
	"testing"

	"loop.example/endsoflife/impl"
)

// The functions of this file tell by other means than the program what chapter 8 says of texts: they look, behind each
// word, at the values that are alive there, and at the cells of these.

// numberIn returns the number of a word.
func numberIn(word string) int {
	number, _ := strconv.Atoi(word[1:])
	return number
}

// aliveBehindWords tells the values that are alive behind each word.
func aliveBehindWords(words []string) [][]int {
	var list [][]int
	var alive []int
	for _, word := range words {
		alive = slices.Clone(alive)
		switch word[0] {
		case '+':
			alive = append(alive, numberIn(word))
		case '-':
			alive = slices.DeleteFunc(alive, func(value int) bool { return value == numberIn(word) })
		}
		list = append(list, alive)
	}
	return list
}

// cellsOfValues returns the cells of some values.
func cellsOfValues(cells []int, values []int) []int {
	var list []int
	for _, value := range values {
		list = append(list, cells[value-1])
	}
	return list
}

// cellsInWords tells the cells of values if each one gets that which a function chooses, from those that are taken.
func cellsInWords(words []string, choose func(taken []int) int) []int {
	var cells []int
	for k, alive := range aliveBehindWords(words) {
		if words[k][0] == '+' {
			others := alive[:len(alive)-1]
			cells = append(cells, choose(cellsOfValues(cells, others)))
		}
	}
	return cells
}

// firstFree returns the first cell that is not taken.
func firstFree(taken []int) int {
	cell := 0
	for slices.Contains(taken, cell) {
		cell++
	}
	return cell
}

// aboveAll returns the cell above all that are taken.
func aboveAll(taken []int) int {
	return slices.Max(append([]int{-1}, taken...)) + 1
}

// reusesInWords tells the values that are made right behind a word that destroys one.
func reusesInWords(words []string) []int {
	var list []int
	for k := 1; k < len(words); k++ {
		if words[k-1][0] == '-' && words[k][0] == '+' {
			list = append(list, numberIn(words[k]))
		}
	}
	return list
}

// textOfCells tells what is in each cell behind each word.
func textOfCells(words []string, cells []int, count int) string {
	if len(words) == 0 {
		return "-"
	}
	var rows []string
	for _, alive := range aliveBehindWords(words) {
		row := slices.Repeat([]string{"."}, count)
		for _, value := range alive {
			row[cells[value-1]] = strconv.Itoa(value)
		}
		rows = append(rows, strings.Join(row, " "))
	}
	return strings.Join(rows, ";")
}

// fitWords tells CellsFit: behind each word all values that are alive are in cells of their own.
func fitWords(words []string, cells []int) bool {
	made := 0
	for _, word := range words {
		if word[0] == '+' {
			made++
		}
	}
	if len(cells) != made || slices.ContainsFunc(cells, func(cell int) bool { return cell < 0 }) {
		return false
	}
	for _, alive := range aliveBehindWords(words) {
		taken := cellsOfValues(cells, alive)
		slices.Sort(taken)
		if len(slices.Compact(taken)) < len(alive) {
			return false
		}
	}
	return true
}

// A kept is what chapter 8 says of a text of events, but for the lists of cells that fit.
type kept struct {
	cells  []int
	stack  []int
	reuses []int
	count  int
	high   int
	text   string
}

func keptOf(words []string) kept {
	cells, stack := cellsInWords(words, firstFree), cellsInWords(words, aboveAll)
	e := kept{cells: cells, stack: stack, reuses: reusesInWords(words), count: aboveAll(cells), high: aboveAll(stack)}
	e.text = textOfCells(words, cells, e.count)
	return e
}

// checkKept holds all functions of chapter 8 but CellsFit against what is expected of a text of events.
func checkKept(t *testing.T, text string, e kept) {
	t.Helper()
	if got, ok := impl.CellsFor(text); !slices.Equal(got, e.cells) || !ok {
		t.Errorf("CellsFor(%.90q) = %v, %v, not %v", text, got, ok, e.cells)
	}
	if got, ok := impl.StackCells(text); !slices.Equal(got, e.stack) || !ok {
		t.Errorf("StackCells(%.90q) = %v, %v, not %v", text, got, ok, e.stack)
	}
	if got, ok := impl.ReusesOf(text); !slices.Equal(got, e.reuses) || !ok {
		t.Errorf("ReusesOf(%.90q) = %v, %v, not %v", text, got, ok, e.reuses)
	}
	if got := impl.CountCells(text); got != e.count {
		t.Errorf("CountCells(%.90q) = %d, not %d", text, got, e.count)
	}
	if got := impl.CountStack(text); got != e.high {
		t.Errorf("CountStack(%.90q) = %d, not %d", text, got, e.high)
	}
	if got, ok := impl.CellsText(text); got != e.text || !ok {
		t.Errorf("CellsText(%.90q) = %.200q, %v, not %.200q", text, got, ok, e.text)
	}
}

// checkFit holds CellsFit against what is expected.
func checkFit(t *testing.T, text string, cells []int, fit bool) {
	t.Helper()
	if got := impl.CellsFit(text, cells); got != fit {
		t.Errorf("CellsFit(%.90q, %v) = %v", text, cells, got)
	}
}

// checkNoRoom tells all that chapter 8 says of a text that is not one of events.
func checkNoRoom(t *testing.T, text string) {
	t.Helper()
	cells, one := impl.CellsFor(text)
	stack, two := impl.StackCells(text)
	reuses, three := impl.ReusesOf(text)
	row, four := impl.CellsText(text)
	if len(cells) != 0 || one || len(stack) != 0 || two || len(reuses) != 0 || three || row != "" || four {
		t.Errorf("%.90q: %v, %v, %v, %v, %v, %v, %.90q, %v", text, cells, one, stack, two, reuses, three, row, four)
	}
	if impl.CountCells(text) != -1 || impl.CountStack(text) != -1 {
		t.Errorf("%.90q: %d, %d", text, impl.CountCells(text), impl.CountStack(text))
	}
	for _, list := range [][]int{nil, {}, {0}, {0, 1}, {0, 0}, {0, 1, 2}, {-1}} {
		checkFit(t, text, list, false)
	}
}

// checkPromise8 tells what promise 8 says of events: as many cells are needed as values are alive at once.
func checkPromise8(t *testing.T, text string) {
	t.Helper()
	cells, _ := impl.CellsFor(text)
	stack, _ := impl.StackCells(text)
	if most := impl.MostAlive(text); impl.CountCells(text) != most || impl.CountStack(text) < most {
		t.Errorf("%.90q: %d, %d, not %d", text, impl.CountCells(text), impl.CountStack(text), most)
	}
	if impl.AreNested(text) && !slices.Equal(cells, stack) {
		t.Errorf("%.90q: %v, %v, although events are nested", text, cells, stack)
	}
	checkFit(t, text, cells, true)
	checkFit(t, text, stack, true)
}

// checkChapter8 holds all functions of chapter 8 against what is expected of a text.
func checkChapter8(t *testing.T, text string) {
	t.Helper()
	words, valid := wordsOfEvents(text)
	if !valid {
		checkNoRoom(t, text)
		return
	}
	e := keptOf(words)
	checkKept(t, text, e)
	checkPromise8(t, text)
	for _, cells := range [][]int{e.cells, e.stack} {
		if len(cells) > 0 {
			checkFit(t, text, cells[1:], false)
		}
		checkFit(t, text, append(slices.Clone(cells), 1000), false)
	}
}

// cellsNextTo returns lists of cells that come of one when a cell is replaced, left out, told twice, or trades places
// with another one.
func cellsNextTo(random *rand.Rand, cells []int) [][]int {
	list := [][]int{nil, append(slices.Clone(cells), 0)}
	for i := range cells {
		list = append(list, slices.Concat(cells[:i], cells[i+1:]), slices.Concat(cells[:i+1], cells[i:]))
		for _, cell := range []int{-1, 0, 1, 2, 700, 1<<32 + cells[i], 1<<63 - 1, -1 << 63, cells[random.Intn(len(cells))]} {
			other := slices.Clone(cells)
			other[i] = cell
			list = append(list, other)
		}
		other := slices.Clone(cells)
		j := random.Intn(len(cells))
		other[i], other[j] = other[j], other[i]
		list = append(list, other)
	}
	return list
}
