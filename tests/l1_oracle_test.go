package tests

import (
	"regexp"
	"slices"
	"strings"
	"testing"

	"loop.example/endsoflife/impl"
)

// The functions of this file tell by other means than the program what chapter 1 says of a text:
// bytes of kinds stand only where steps begin, and a text is a program if its steps can be replaced
// by an s each, from the inside to the outside, until one s is left.

const kindBytes = "+=.-~^!?*{"

var (
	plainStep  = regexp.MustCompile(`[+.~-][a-f]|=[a-f][a-f]|[\^!]`)
	nestedStep = regexp.MustCompile(`\?\[s*\]\[s*\]|\*\[s*\]|\{[a-f]+:s*\}`)
	foreign    = regexp.MustCompile(`[^a-f+=.~^!?*{}:\[\]-]`)
)

// expected is what chapter 1 says of a text.
type expected struct {
	valid  bool
	vars   string
	starts []int
	steps  map[int]string
	around map[int]string
	depth  int
}

func expectedOf(p string) expected {
	if len(p) > 80 || !hasShape(p) {
		return expected{}
	}
	e := expected{valid: true, steps: map[int]string{}, around: map[int]string{}}
	var scopes []string
	for at := 0; at < len(p); at++ {
		around := strings.Join(scopes, "")
		if strings.IndexByte(kindBytes, p[at]) >= 0 {
			e.starts = append(e.starts, at)
			e.steps[at] = p[at : at+lengthOfStep(p[at:])]
			e.around[at] = around
		}
		switch p[at] {
		case '{':
			vars, _, _ := strings.Cut(p[at+1:], ":")
			if hasTwice(around + vars) {
				return expected{}
			}
			scopes = append(scopes, vars)
			e.depth = max(e.depth, len(scopes))
			e.vars += vars
			at += len(vars) + 1
		case '}':
			scopes = scopes[:len(scopes)-1]
		case 'a', 'b', 'c', 'd', 'e', 'f':
			if strings.IndexByte(around, p[at]) < 0 {
				return expected{}
			}
		case '=':
			if p[at+1] == p[at+2] {
				return expected{}
			}
		}
	}
	if e.depth > 4 {
		return expected{}
	}
	letters := strings.Split(e.vars, "")
	slices.Sort(letters)
	e.vars = strings.Join(slices.Compact(letters), "")
	return e
}

func hasShape(p string) bool {
	if foreign.MatchString(p) || !strings.HasPrefix(p, "{") {
		return false
	}
	p = plainStep.ReplaceAllString(p, "s")
	for {
		shorter := nestedStep.ReplaceAllString(p, "s")
		if shorter == p {
			return p == "s"
		}
		p = shorter
	}
}

func hasTwice(vars string) bool {
	for i := range vars {
		if strings.Count(vars, vars[i:i+1]) > 1 {
			return true
		}
	}
	return false
}

// lengthOfStep tells how long the step is with which a part of a program begins.
func lengthOfStep(rest string) int {
	switch rest[0] {
	case '+', '.', '-', '~':
		return 2
	case '=':
		return 3
	case '^', '!':
		return 1
	case '?':
		left := lengthOfPair(rest[1:], '[', ']')
		return 1 + left + lengthOfPair(rest[1+left:], '[', ']')
	case '*':
		return 1 + lengthOfPair(rest[1:], '[', ']')
	}
	return lengthOfPair(rest, '{', '}')
}

func lengthOfPair(rest string, opening, closing byte) int {
	open := 0
	for i := range len(rest) {
		switch rest[i] {
		case opening:
			open++
		case closing:
			open--
		}
		if open == 0 {
			return i + 1
		}
	}
	return -1
}

func (e expected) count(kind string) int {
	if !e.valid || len(kind) != 1 || !strings.Contains(kindBytes, kind) {
		return -1
	}
	count := 0
	for _, step := range e.steps {
		if step[:1] == kind {
			count++
		}
	}
	return count
}

// checkChapter1 holds all functions of chapter 1 against what is expected of a text.
func checkChapter1(t *testing.T, p string) {
	t.Helper()
	e := expectedOf(p)
	if got := impl.ProgramValid(p); got != e.valid {
		t.Errorf("ProgramValid(%q) = %v", p, got)
	}
	if got, ok := impl.VarsOf(p); got != e.vars || ok != e.valid {
		t.Errorf("VarsOf(%q) = %q, %v, not %q", p, got, ok, e.vars)
	}
	if got, ok := impl.StepsOf(p); !slices.Equal(got, e.starts) || ok != e.valid {
		t.Errorf("StepsOf(%q) = %v, %v, not %v", p, got, ok, e.starts)
	}
	for at := -2; at <= len(p)+2; at++ {
		step, begins := e.steps[at]
		if got, ok := impl.StepAt(p, at); got != step || ok != begins {
			t.Errorf("StepAt(%q, %d) = %q, %v, not %q", p, at, got, ok, step)
		}
		if got, ok := impl.InScope(p, at); got != e.around[at] || ok != begins {
			t.Errorf("InScope(%q, %d) = %q, %v, not %q", p, at, got, ok, e.around[at])
		}
	}
	for _, kind := range strings.Split(kindBytes, "") {
		if got := impl.CountSteps(p, kind); got != e.count(kind) {
			t.Errorf("CountSteps(%q, %q) = %d, not %d", p, kind, got, e.count(kind))
		}
	}
	if got := impl.IsStraight(p); got != (e.valid && !strings.ContainsAny(p, "?*")) {
		t.Errorf("IsStraight(%q) = %v", p, got)
	}
	depth := e.depth
	if !e.valid {
		depth = -1
	}
	if got := impl.DepthOf(p); got != depth {
		t.Errorf("DepthOf(%q) = %d, not %d", p, got, depth)
	}
}
