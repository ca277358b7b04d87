package tests

import (
	"math/rand"
	"regexp"
	"slices"
	"strconv"
	"strings"
	"testing"

	"loop.example/endsoflife/impl"
)

// The functions of this file tell by other means than the program what chapter 7 says of texts: they look for the words
// of a text, as they are, each time anew.

var eventWord = regexp.MustCompile(`\A[+.-][1-9][0-9]*\z`)

// wordsOfEvents returns the words of a text; ok is false if it is not one of events.
func wordsOfEvents(text string) (words []string, ok bool) {
	if text == "-" {
		return nil, true
	}
	words = strings.Split(text, " ")
	if len(words) > 600 {
		return nil, false
	}
	made := 0
	for k, word := range words {
		if !eventWord.MatchString(word) {
			return nil, false
		}
		if word[0] == '+' {
			made++
			if word != "+"+strconv.Itoa(made) {
				return nil, false
			}
		} else if !slices.Contains(words[:k], "+"+word[1:]) || slices.Contains(words[:k], "-"+word[1:]) {
			return nil, false
		}
	}
	return words, true
}

// textOfWords returns the text that has some words.
func textOfWords(words []string) string {
	if len(words) == 0 {
		return "-"
	}
	return strings.Join(words, " ")
}

// lastUse returns the index of the last word that makes or uses a value.
func lastUse(words []string, value string) int {
	at := len(words) - 1
	for words[at] != "+"+value && words[at] != "."+value {
		at--
	}
	return at
}

// livesInWords tells Born, Used and Died of all values.
func livesInWords(words []string) [][3]int {
	var list [][3]int
	for value := 1; ; value++ {
		number := strconv.Itoa(value)
		born := slices.Index(words, "+"+number)
		if born < 0 {
			return list
		}
		list = append(list, [3]int{born, lastUse(words, number), slices.Index(words, "-"+number)})
	}
}

// aliveInWords tells the values that are alive behind some words.
func aliveInWords(words []string) []int {
	var list []int
	for _, word := range words {
		value, _ := strconv.Atoi(word[1:])
		if word[0] == '+' && !slices.Contains(words, "-"+word[1:]) {
			list = append(list, value)
		}
	}
	return list
}

// earlyWords tells EarlyEvents: each word that destroys a value is put behind the last other one of this value.
func earlyWords(words []string) []string {
	list := slices.Clone(words)
	for _, word := range words {
		if word[0] == '-' {
			list = slices.DeleteFunc(list, func(other string) bool { return other == word })
			list = slices.Insert(list, lastUse(list, word[1:])+1, word)
		}
	}
	return list
}

// A told is what chapter 7 says of a text of events.
type told struct {
	lives  [][3]int // Born, Used and Died of each value
	most   int
	nested bool
	idle   int
	left   []int
	early  string
}

func toldOf(words []string) told {
	e := told{lives: livesInWords(words), nested: true, left: aliveInWords(words), early: textOfWords(earlyWords(words))}
	for k, word := range words {
		alive := aliveInWords(words[:k])
		if word[0] == '-' && word[1:] != strconv.Itoa(slices.Max(alive)) {
			e.nested = false
		}
		e.most = max(e.most, len(aliveInWords(words[:k+1])))
	}
	for _, l := range e.lives {
		if used, died := l[1], l[2]; died >= 0 {
			e.idle += len(words[used+1 : died])
		}
	}
	return e
}

func isLife(l impl.Life, told [3]int) bool {
	return l.Born == told[0] && l.Used == told[1] && l.Died == told[2]
}

// checkTold holds all functions of chapter 7 but AliveAt against what is expected of a text of events.
func checkTold(t *testing.T, text string, e told) {
	t.Helper()
	if !impl.EventsValid(text) {
		t.Errorf("EventsValid(%.90q) = false", text)
	}
	if got, ok := impl.LivesOf(text); !slices.EqualFunc(got, e.lives, isLife) || !ok {
		t.Errorf("LivesOf(%.90q) = %v, %v, not %v", text, got, ok, e.lives)
	}
	if got, ok := impl.LeftOver(text); !slices.Equal(got, e.left) || !ok {
		t.Errorf("LeftOver(%.90q) = %v, %v, not %v", text, got, ok, e.left)
	}
	if got, ok := impl.EarlyEvents(text); got != e.early || !ok {
		t.Errorf("EarlyEvents(%.90q) = %q, %v, not %q", text, got, ok, e.early)
	}
	if got := impl.MostAlive(text); got != e.most {
		t.Errorf("MostAlive(%.90q) = %d, not %d", text, got, e.most)
	}
	if got := impl.AreNested(text); got != e.nested {
		t.Errorf("AreNested(%.90q) = %v", text, got)
	}
	if got := impl.IdleOf(text); got != e.idle {
		t.Errorf("IdleOf(%.90q) = %d, not %d", text, got, e.idle)
	}
}

// checkAlive holds AliveAt against what is expected behind an event.
func checkAlive(t *testing.T, text string, k int, alive []int, isEvent bool) {
	t.Helper()
	if got, ok := impl.AliveAt(text, k); !slices.Equal(got, alive) || ok != isEvent {
		t.Errorf("AliveAt(%.90q, %d) = %v, %v, not %v, %v", text, k, got, ok, alive, isEvent)
	}
}

// indicesOfNone are indices at which no text has an event.
var indicesOfNone = []int{-1 << 63, -1<<63 + 1, -1 << 32, -600, -2, -1, 600, 601, 1 << 32, 1<<63 - 1}

// checkChapter7 holds all functions of chapter 7 against what is expected of a text.
func checkChapter7(t *testing.T, text string) {
	t.Helper()
	words, valid := wordsOfEvents(text)
	if !valid {
		checkNoEvents(t, text)
		return
	}
	checkTold(t, text, toldOf(words))
	for k := range words {
		checkAlive(t, text, k, aliveInWords(words[:k+1]), true)
	}
	for _, k := range append(indicesOfNone, len(words), len(words)+1) {
		checkAlive(t, text, k, nil, false)
	}
}

// checkNoEvents tells all that the chapter says of a text that is not one of events.
func checkNoEvents(t *testing.T, text string) {
	t.Helper()
	lives, one := impl.LivesOf(text)
	left, two := impl.LeftOver(text)
	early, three := impl.EarlyEvents(text)
	if len(lives) != 0 || one || len(left) != 0 || two || early != "" || three {
		t.Errorf("%.90q: %v, %v, %v, %v, %q, %v", text, lives, one, left, two, early, three)
	}
	if impl.EventsValid(text) || impl.MostAlive(text) != -1 || impl.AreNested(text) || impl.IdleOf(text) != -1 {
		t.Errorf("%.90q: %v, %d, %v, %d", text, impl.EventsValid(text), impl.MostAlive(text), impl.AreNested(text), impl.IdleOf(text))
	}
	for k := range 3 {
		checkAlive(t, text, k, nil, false)
	}
	for _, k := range indicesOfNone {
		checkAlive(t, text, k, nil, false)
	}
}

// wordsAtRandom returns the words of events at random.
func wordsAtRandom(random *rand.Rand, count int) []string {
	var words []string
	var alive []string
	made := 0
	for len(words) < count {
		i := random.Intn(len(alive) + 1)
		switch kind := random.Intn(8); {
		case kind < 3:
			made++
			alive = append(alive, strconv.Itoa(made))
			words = append(words, "+"+strconv.Itoa(made))
		case i == len(alive):
		case kind < 6:
			words = append(words, "."+alive[i])
		default:
			words = append(words, "-"+alive[i])
			alive = slices.Delete(alive, i, i+1)
		}
	}
	return words
}

// eventsOfRuns returns the events of runs of programs at random, and of some that are not.
func eventsOfRuns(t *testing.T, seed int64, count int) []string {
	t.Helper()
	random := rand.New(rand.NewSource(seed))
	var texts []string
	for _, p := range append(randomPrograms(t, seed+1, count), programs...) {
		list, _ := impl.AllChoices(p, 4)
		for _, choices := range append(list, choicesAtRandom(random, p)) {
			if text, ok := impl.EventsOf(p, choices); ok {
				texts = append(texts, text)
			}
		}
	}
	return texts
}

// wordsNextTo returns what comes of words when one is left out, told twice, or trades places with the next one.
func wordsNextTo(words []string) [][]string {
	var list [][]string
	for i := range words {
		list = append(list, slices.Concat(words[:i], words[i+1:]), slices.Concat(words[:i+1], words[i:]))
		if i > 0 {
			traded := slices.Clone(words)
			traded[i-1], traded[i] = traded[i], traded[i-1]
			list = append(list, traded)
		}
	}
	return list
}
