package tests

import (
	"math/rand"
	"strings"
	"testing"

	"loop.example/endsoflife/impl"
)

// A maker writes programs at random, the same ones each time that the tests are run.
type maker struct {
	random *rand.Rand
	around string
	scopes int
}

// randomPrograms returns programs at random; their lengths vary up to the limit.
func randomPrograms(t *testing.T, seed int64, count int) []string {
	t.Helper()
	m := &maker{random: rand.New(rand.NewSource(seed))}
	return madePrograms(t, count, func() string { return m.scope(4 + m.random.Intn(77)) })
}

// madePrograms returns programs that a function makes; those that get too long are left out.
func madePrograms(t *testing.T, count int, made func() string) []string {
	t.Helper()
	var list []string
	for len(list) < count {
		p := made()
		if len(p) > 80 {
			continue
		}
		if !impl.ProgramValid(p) {
			t.Fatalf("ProgramValid(%q) = false", p)
		}
		list = append(list, p)
	}
	return list
}

// scope writes a scope of about as many bytes as there is room for.
func (m *maker) scope(room int) string {
	free := ""
	for _, i := range m.random.Perm(6) {
		if v := "abcdef"[i : i+1]; !strings.Contains(m.around, v) {
			free += v
		}
	}
	vars := free[:1+m.random.Intn(min(3, len(free)))]
	outer := m.around
	m.around += vars
	m.scopes++
	text := "{" + vars + ":" + m.steps(room-3-len(vars)) + "}"
	m.scopes--
	m.around = outer
	return text
}

func (m *maker) steps(room int) string {
	text := ""
	for len(text) < room && m.random.Intn(12) > 0 {
		text += m.step(room - len(text))
	}
	return text
}

func (m *maker) step(room int) string {
	v := m.variable()
	switch kind := m.random.Intn(24); {
	case kind < 7:
		return "+" + v
	case kind < 9:
		if w := m.variable(); w != v {
			return "=" + v + w
		}
		return "+" + v
	case kind < 11:
		return "." + v
	case kind < 13:
		return "-" + v
	case kind < 15:
		return "~" + v
	case kind < 16:
		return "^!"[m.random.Intn(2):][:1]
	case kind < 19 && room > 8:
		return "?[" + m.steps(m.random.Intn(room/2)) + "][" + m.steps(m.random.Intn(room/2)) + "]"
	case kind < 21 && room > 6:
		return "*[" + m.steps(m.random.Intn(room-3)) + "]"
	case kind < 24 && room > 6 && m.scopes < 4 && len(m.around) < 6:
		return m.scope(m.random.Intn(room))
	}
	return "+" + v
}

func (m *maker) variable() string {
	i := m.random.Intn(len(m.around))
	return m.around[i : i+1]
}

// changedPrograms returns programs at random, and the ordinary ones, each of them changed at random.
func changedPrograms(t *testing.T, seed int64, count int, change func(random *rand.Rand, p string) string) []string {
	t.Helper()
	random := rand.New(rand.NewSource(seed))
	list := append(randomPrograms(t, seed+1, count), programs...)
	for i, p := range list {
		list[i] = change(random, p)
	}
	return list
}

// textsNextTo returns the texts that come of a program when one byte is left out, or some others are put in or replace it.
func textsNextTo(p string, others ...string) []string {
	var list []string
	for i := range len(p) + 1 {
		ahead, behind := p[:i], p[min(i+1, len(p)):]
		list = append(list, ahead+behind)
		for _, text := range others {
			list = append(list, ahead+text+behind, ahead+text+p[i:])
		}
	}
	return list
}

// checkValid checks texts that must be programs.
func checkValid(t *testing.T, check func(*testing.T, string), list ...string) {
	t.Helper()
	for _, p := range list {
		if !impl.ProgramValid(p) {
			t.Errorf("ProgramValid(%q) = false", p)
		}
		check(t, p)
	}
}
