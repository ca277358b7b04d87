package tests

import (
	"math/rand"
	"slices"
	"strconv"
	"strings"
	"testing"

	"loop.example/endsoflife/impl"
)

// The functions of this file tell by other means than the program what chapter 2 says of a run:
// a run is a list of the bytes of a program that are still to be done, which gets longer and shorter.

// walked is what chapter 2 says of a program and choices.
type walked struct {
	right  bool
	events string
	exit   int
	fault  int
	visits []impl.Visit
	asks   string // what is chosen between where choices are missing
}

var notWalked = walked{exit: impl.ExitNone, fault: -1}

// walker goes through a program. A byte on the list that is told as -1-b is the loop at b that is come to again.
type walker struct {
	p      string
	e      expected
	rest   []int
	held   map[byte]int
	made   int
	events []string
	visits []impl.Visit
}

func walkedOf(p, choices string) walked {
	e := expectedOf(p)
	if !e.valid || len(choices) > 20 {
		return notWalked
	}
	w := &walker{p: p, e: e, rest: []int{0}, held: map[byte]int{}}
	exit, fault := impl.ExitEnd, -1
	for len(w.rest) > 0 {
		at := w.rest[0]
		w.rest = w.rest[1:]
		if at < 0 || p[at] == '?' || p[at] == '*' {
			if at >= 0 {
				w.visit(at, e.around[at])
			}
			if choices == "" {
				return walked{exit: impl.ExitNone, fault: -1, asks: w.asks(at)}
			}
			if !w.chosen(at, choices[0]) {
				return notWalked
			}
			choices = choices[1:]
			continue
		}
		exit, fault = w.plain(at)
		if exit != impl.ExitEnd {
			break
		}
	}
	if choices != "" {
		return notWalked
	}
	events := strings.Join(w.events, " ")
	if events == "" {
		events = "-"
	}
	return walked{true, events, exit, fault, w.visits, ""}
}

// startsWithin returns the bytes within a part of a program at which steps begin that are in no other step of the part.
func (w *walker) startsWithin(from, to int) []int {
	var list []int
	for at := from; at < to; at += len(w.e.steps[at]) {
		list = append(list, at)
	}
	return list
}

func (w *walker) asks(at int) string {
	if at < 0 || w.p[at] == '*' {
		return "em"
	}
	return "lr"
}

// askedBy returns what a run with choices asks for that are too few; the empty string if they are enough or not right.
func askedBy(p, choices string) string { return walkedOf(p, choices).asks }

// choicesAtRandom chooses what a run asks for at random, up to one choice more than there may be.
func choicesAtRandom(random *rand.Rand, p string) string {
	choices := ""
	for asks := askedBy(p, choices); asks != "" && len(choices) <= 20; asks = askedBy(p, choices) {
		i := random.Intn(len(asks))
		choices += asks[i : i+1]
	}
	return choices
}

func (w *walker) chosen(at int, choice byte) bool {
	loop := at
	if at < 0 {
		loop = -1 - at
	}
	if w.p[loop] == '*' {
		if choice == 'm' {
			body := w.startsWithin(loop+2, loop+len(w.e.steps[loop])-1)
			w.rest = slices.Concat(body, []int{-1 - loop}, w.rest)
		}
		return choice == 'm' || choice == 'e'
	}
	left := lengthOfPair(w.p[at+1:], '[', ']')
	right := lengthOfPair(w.p[at+1+left:], '[', ']')
	switch choice {
	case 'l':
		w.rest = slices.Concat(w.startsWithin(at+2, at+left), w.rest)
	case 'r':
		w.rest = slices.Concat(w.startsWithin(at+left+2, at+left+right), w.rest)
	default:
		return false
	}
	return true
}

func (w *walker) visit(at int, vars string) {
	var holding []string
	for i := range vars {
		if w.held[vars[i]] > 0 {
			holding = append(holding, vars[i:i+1])
		}
	}
	slices.Sort(holding)
	w.visits = append(w.visits, impl.Visit{At: at, Holds: strings.Join(holding, "")})
}

func (w *walker) tell(kind string, value int) {
	w.events = append(w.events, kind+strconv.Itoa(value))
}

func (w *walker) kill(vars string) {
	for i := len(vars) - 1; i >= 0; i-- {
		if value := w.held[vars[i]]; value > 0 {
			w.tell("-", value)
			delete(w.held, vars[i])
		}
	}
}

// plain does what needs no choice, and returns how the run ends, ExitEnd if it goes on.
func (w *walker) plain(at int) (exit, fault int) {
	p := w.p
	if p[at] == '}' {
		from := at
		for from+len(w.e.steps[from]) != at+1 || p[from] != '{' {
			from--
		}
		own, _, _ := strings.Cut(p[from+1:], ":")
		w.visit(at, w.e.around[from]+own)
		w.kill(own)
		return impl.ExitEnd, -1
	}
	w.visit(at, w.e.around[at])
	switch p[at] {
	case '{':
		from := at + 1 + strings.IndexByte(p[at:], ':')
		last := at + len(w.e.steps[at]) - 1
		w.rest = slices.Concat(w.startsWithin(from, last), []int{last}, w.rest)
		return impl.ExitEnd, -1
	case '^':
		w.kill(w.e.around[at])
		return impl.ExitReturn, -1
	case '!':
		w.kill(w.e.around[at])
		return impl.ExitFail, -1
	}
	return w.withVariables(at)
}

func (w *walker) withVariables(at int) (exit, fault int) {
	p := w.p
	v := p[at+1]
	if p[at] == '=' || p[at] == '+' {
		w.kill(string(v))
	}
	needed := v
	if p[at] == '=' {
		needed = p[at+2]
	}
	if strings.IndexByte(".-=", p[at]) >= 0 && w.held[needed] == 0 {
		return impl.ExitFault, at
	}
	switch p[at] {
	case '+':
		w.made++
		w.held[v] = w.made
		w.tell("+", w.made)
	case '=':
		w.held[v] = w.held[needed]
		delete(w.held, needed)
	case '.':
		w.tell(".", w.held[v])
	default:
		w.kill(string(v))
	}
	return impl.ExitEnd, -1
}

// checkRun holds the functions of chapter 2 that are given choices against what is expected of them.
func checkRun(t *testing.T, p, choices string) {
	t.Helper()
	w := walkedOf(p, choices)
	if got := impl.ChoicesRight(p, choices); got != w.right {
		t.Errorf("ChoicesRight(%q, %q) = %v", p, choices, got)
	}
	if got, ok := impl.EventsOf(p, choices); got != w.events || ok != w.right {
		t.Errorf("EventsOf(%q, %q) = %q, %v, not %q", p, choices, got, ok, w.events)
	}
	if got := impl.ExitOf(p, choices); got != w.exit {
		t.Errorf("ExitOf(%q, %q) = %d, not %d", p, choices, got, w.exit)
	}
	if got := impl.FaultAt(p, choices); got != w.fault {
		t.Errorf("FaultAt(%q, %q) = %d, not %d", p, choices, got, w.fault)
	}
	if got, ok := impl.VisitsOf(p, choices); !slices.Equal(got, w.visits) || ok != w.right {
		t.Errorf("VisitsOf(%q, %q) = %v, %v, not %v", p, choices, got, ok, w.visits)
	}
}

// textsOfChoices returns all texts of choices of at most n bytes, in the order of AllChoices if runs have them.
func textsOfChoices(n int) []string {
	list := []string{""}
	for from := 0; n > 0; n-- {
		to := len(list)
		for _, text := range list[from:to] {
			for _, choice := range "lrem" {
				list = append(list, text+string(choice))
			}
		}
		from = to
	}
	return list
}

// listedOf tells AllChoices by trying all texts.
func listedOf(p string, texts []string) []string {
	var list []string
	for _, text := range texts {
		if walkedOf(p, text).right {
			list = append(list, text)
		}
	}
	return list
}

// checkRuns checks the runs of programs with at most n choices, and some longer ones at random.
func checkRuns(t *testing.T, seed int64, list []string, n int, check func(t *testing.T, p, choices string)) {
	t.Helper()
	random := rand.New(rand.NewSource(seed))
	for _, p := range list {
		short, _ := impl.AllChoices(p, n)
		for _, choices := range short {
			check(t, p, choices)
		}
		for range 3 {
			check(t, p, choicesAtRandom(random, p))
		}
	}
}
