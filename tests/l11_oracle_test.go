package tests

import (
	"math/rand"
	"slices"
	"strings"
	"testing"

	"loop.example/endsoflife/impl"
)

// The functions of this file tell by other means than the program what chapter 11 says of a text: orders are words that
// get longer, and what runs do is told by the walker of chapter 2, word by word.

// ordersOfVars returns all orders of variables in the order of the alphabet.
func ordersOfVars(vars string) []string {
	letters := strings.Split(vars, "")
	slices.Sort(letters)
	list := []string{""}
	for range letters {
		var longer []string
		for _, word := range list {
			for _, v := range letters {
				if !strings.Contains(word, v) {
					longer = append(longer, word+v)
				}
			}
		}
		list = longer
	}
	return list
}

// declaredBy returns the variables of the outermost scope of a program, as they are declared.
func declaredBy(p string) string {
	vars, _, _ := strings.Cut(p[1:], ":")
	return vars
}

func inOtherOrder(p, vars string) string {
	return strings.Replace(p, "{"+declaredBy(p)+":", "{"+vars+":", 1)
}

// A doing is what is done by a short run.
type doing struct {
	choices, events string
	exit            int
}

// doingsOf returns what is done by all short runs of a program.
func doingsOf(p string) []doing {
	var list []doing
	begun := []string{""}
	for range 7 {
		for _, choices := range begun {
			if w := walkedOf(p, choices); w.right {
				list = append(list, doing{choices, w.events, w.exit})
			}
		}
		begun = longerOnes(p, begun)
	}
	return list
}

// pileOf piles up values as words of events make them. It returns how high the pile gets at most,
// and whether each value that is destroyed lies on top.
func pileOf(events string) (most int, nested bool) {
	nested = true
	var pile []string
	for _, word := range strings.Fields(strings.TrimSuffix(events, "-")) {
		value := word[1:]
		switch word[0] {
		case '+':
			pile = append(pile, value)
		case '-':
			nested = nested && pile[len(pile)-1] == value
			pile = slices.DeleteFunc(pile, func(other string) bool { return other == value })
		}
		most = max(most, len(pile))
	}
	return most, nested
}

// ordered is what chapter 11 says of a program.
type ordered struct {
	orders []string // none if the variables are too many
	same   []string
	nested bool
	order  string
	most   int
}

func orderedOf(p string) ordered {
	doings := doingsOf(p)
	o := ordered{nested: true}
	for _, d := range doings {
		most, nested := pileOf(d.events)
		o.most = max(o.most, most)
		o.nested = o.nested && nested
	}
	if len(declaredBy(p)) > 4 {
		return o
	}
	o.orders = ordersOfVars(declaredBy(p))
	for _, vars := range o.orders {
		others := doingsOf(inOtherOrder(p, vars))
		if slices.Equal(doings, others) {
			o.same = append(o.same, vars)
		}
		isNested := !slices.ContainsFunc(others, func(d doing) bool {
			_, nested := pileOf(d.events)
			return !nested
		})
		if isNested && o.order == "" {
			o.order = vars
		}
	}
	return o
}

// checkOrdered holds all functions of chapter 11 but WithOrder against what is expected of a program.
func checkOrdered(t *testing.T, p string, o ordered) {
	t.Helper()
	isTold := len(o.orders) > 0
	if got, ok := impl.OrdersOf(p); !slices.Equal(got, o.orders) || ok != isTold {
		t.Errorf("OrdersOf(%q) = %q, %v, not %q", p, got, ok, o.orders)
	}
	if got, ok := impl.SameOrders(p); !slices.Equal(got, o.same) || ok != isTold {
		t.Errorf("SameOrders(%q) = %q, %v, not %q", p, got, ok, o.same)
	}
	if got := impl.OrderMatters(p); got != !slices.Equal(o.same, o.orders) {
		t.Errorf("OrderMatters(%q) = %v", p, got)
	}
	if got := impl.IsNested(p); got != o.nested {
		t.Errorf("IsNested(%q) = %v", p, got)
	}
	if got, ok := impl.NestedOrder(p); got != o.order || ok != (o.order != "") {
		t.Errorf("NestedOrder(%q) = %q, %v, not %q", p, got, ok, o.order)
	}
	if got := impl.MostInRuns(p); got != o.most {
		t.Errorf("MostInRuns(%q) = %d, not %d", p, got, o.most)
	}
}

// noOrders returns texts that are no order of some variables, most of them next to one.
func noOrders(vars string) []string {
	list := []string{"", vars + vars, vars + "\x00", "\x00" + vars, vars + " ", " " + vars, vars + ":", "{" + vars, strings.ToUpper(vars), strings.Repeat(vars, 50)}
	for i, v := range strings.Split(vars, "") {
		ahead, behind := vars[:i], vars[i+1:]
		list = append(list, ahead+behind, ahead+v+v+behind, behind+v+v+ahead)
		// Bytes with the same low bits as the variable, and others.
		for _, other := range []byte{0, ' ', '0', 'A' + v[0] - 'a', v[0] ^ 0x80, v[0] + 8, v[0] + 64, 'g', 'i', '{', '}', ':', 0xff} {
			list = append(list, ahead+string([]byte{other})+behind, vars+string([]byte{other}))
		}
		for other := byte('a'); other <= 'f'; other++ {
			if string(other) != v {
				list = append(list, ahead+string(other)+behind)
			}
			list = append(list, vars+string(other), string(other)+vars)
		}
	}
	return list
}

func checkWithOrder(t *testing.T, p, vars, text string, isOrder bool) {
	t.Helper()
	if got, ok := impl.WithOrder(p, vars); got != text || ok != isOrder {
		t.Errorf("WithOrder(%.90q, %.90q) = %q, %v, not %q, %v", p, vars, got, ok, text, isOrder)
	}
}

// checkChapter11 holds all functions of chapter 11 against what is expected of a text.
func checkChapter11(t *testing.T, p string) {
	t.Helper()
	if !expectedOf(p).valid {
		checkNoOrders(t, p)
		return
	}
	checkOrdered(t, p, orderedOf(p))
	own := declaredBy(p)
	for _, vars := range ordersOfVars(own) {
		checkWithOrder(t, p, vars, inOtherOrder(p, vars), true)
	}
	for _, vars := range noOrders(own) {
		checkWithOrder(t, p, vars, "", false)
	}
}

// checkNoOrders tells all that the chapter says of a text that is no program.
func checkNoOrders(t *testing.T, p string) {
	t.Helper()
	checkOrdered(t, p, ordered{most: -1})
	for _, vars := range []string{"", "a", "ab", "ba", "abc", "aa", "x", p, strings.TrimSuffix(strings.TrimPrefix(p, "{"), ":}")} {
		checkWithOrder(t, p, vars, "", false)
	}
	if vars, _, ok := strings.Cut(strings.TrimPrefix(p, "{"), ":"); ok {
		checkWithOrder(t, p, vars, "", false)
	}
}

// wordsBySort returns the words of events in an order that does not depend on when they happen.
func wordsBySort(events string) string {
	words := strings.Split(events, " ")
	slices.Sort(words)
	return strings.Join(words, " ")
}

// checkOtherOrder tells what a run of a program and the same one with another order have in common:
// the same values are made, used and destroyed, and as many are alive at once.
func checkOtherOrder(t *testing.T, p, q, choices string) {
	t.Helper()
	events, ok := impl.EventsOf(p, choices)
	others, okOfOther := impl.EventsOf(q, choices)
	if wordsBySort(events) != wordsBySort(others) || ok != okOfOther || impl.ExitOf(p, choices) != impl.ExitOf(q, choices) {
		t.Errorf("%q, %q: %q, %v, but %q, %v in %q", p, choices, events, ok, others, okOfOther, q)
	}
	if impl.MostAlive(events) != impl.MostAlive(others) {
		t.Errorf("%q, %q: %d alive, but %d in %q", p, choices, impl.MostAlive(events), impl.MostAlive(others), q)
	}
}

// checkOrdersAgree tells what chapter 11 says of a program and of the same one with each of its orders.
func checkOrdersAgree(t *testing.T, random *rand.Rand, p string) {
	t.Helper()
	orders, _ := impl.OrdersOf(p)
	same, _ := impl.SameOrders(p)
	first, isAny := impl.NestedOrder(p)
	for _, vars := range orders {
		q, _ := impl.WithOrder(p, vars)
		list, ok := impl.OrdersOf(q)
		order, isAnyOfOther := impl.NestedOrder(q)
		if !slices.Equal(list, orders) || !ok || order != first || isAnyOfOther != isAny || impl.MostInRuns(q) != impl.MostInRuns(p) {
			t.Errorf("%q: %q, %v, %q, %v, %d in %q", p, list, ok, order, isAnyOfOther, impl.MostInRuns(q), q)
		}
		samesOfOther, _ := impl.SameOrders(q)
		isSame := slices.Contains(same, vars)
		if slices.Equal(samesOfOther, same) != isSame || impl.SameEvents(p, q) != isSame || !slices.Contains(samesOfOther, vars) {
			t.Errorf("%q: SameOrders %q, but %q in %q", p, same, samesOfOther, q)
		}
		if impl.IsNested(q) && (!isAny || first > vars) || vars == first && !impl.IsNested(q) {
			t.Errorf("NestedOrder(%q) = %q, %v, but %q is nested: %v", p, first, isAny, q, impl.IsNested(q))
		}
		checkOtherOrder(t, p, q, choicesAtRandom(random, p))
	}
}

// programsToOrder returns programs at random whose outermost scopes declare up to some number of variables.
func programsToOrder(t *testing.T, seed int64, count, most int) []string {
	t.Helper()
	m := &maker{random: rand.New(rand.NewSource(seed)), scopes: 1}
	return madePrograms(t, count, func() string {
		letters := strings.Split("abcdef", "")
		m.random.Shuffle(len(letters), func(i, j int) { letters[i], letters[j] = letters[j], letters[i] })
		m.around = strings.Join(letters[:1+m.random.Intn(most)], "")
		p := "{" + m.around + ":" + m.steps(m.random.Intn(40))
		// Values that are there in the end, in some order.
		for range 1 + m.random.Intn(4) {
			p += "+" + m.variable()
		}
		return p + "}"
	})
}
