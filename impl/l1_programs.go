package impl

import (
	"iter"
	"slices"
	"strings"
)

// Limits of programs.
const (
	MaxProgram = 80
	MaxScopes  = 4
)

// kindsOfSteps are the bytes with which steps begin.
const kindsOfSteps = "+=.-~^!?*{"

// A step is a node of a program: *valueStep, *leaveStep, *branchStep, *loopStep or *scopeStep.
type step interface {
	begin() int
	end() int
}

// A span tells where a step stands: at from and behind it, ahead of to.
type span struct {
	from int
	to   int
}

func (s *span) begin() int { return s.from }

func (s *span) end() int { return s.to }

// A valueStep is +v, =vw, .v, -v or ~v; the source is w, and 0 for kinds without one.
type valueStep struct {
	span
	kind   byte
	target byte
	source byte
}

// A leaveStep is ^ or !.
type leaveStep struct {
	span
	kind byte
}

// A branchStep is ?[left][right].
type branchStep struct {
	span
	left  []step
	right []step
}

// A loopStep is *[body].
type loopStep struct {
	span
	body []step
}

// A scopeStep is {vars:body}.
type scopeStep struct {
	span
	vars string
	body []step
}

// A misfit is the byte at which a reader comes to something that is no part of a program.
type misfit int

// A reader reads a program; it panics with a misfit where nothing fits.
type reader struct {
	text   string
	next   int
	scopes int
	around string
}

// readProgram returns the outermost scope of a program; ok is false if the text is none.
func readProgram(p string) (root *scopeStep, ok bool) {
	defer func() {
		if recover() != nil {
			root, ok = nil, false
		}
	}()
	// Ahead of reading: a reader recurs as deep as a text is nested, which only the limit bounds.
	if len(p) > MaxProgram {
		return nil, false
	}
	r := &reader{text: p}
	r.need('{')
	root = r.scope()
	if r.next < len(p) {
		panic(misfit(r.next))
	}
	return root, true
}

// take returns the next byte and goes behind it.
func (r *reader) take() byte {
	if r.next == len(r.text) {
		panic(misfit(r.next))
	}
	b := r.text[r.next]
	r.next++
	return b
}

// skips goes behind the next byte if it is b, and reports whether it was.
func (r *reader) skips(b byte) bool {
	if r.next == len(r.text) || r.text[r.next] != b {
		return false
	}
	r.next++
	return true
}

func (r *reader) need(b byte) {
	if !r.skips(b) {
		panic(misfit(r.next))
	}
}

// step reads a step of any kind.
func (r *reader) step() step {
	from := r.next
	switch kind := r.take(); kind {
	case '+', '.', '-', '~':
		v := r.variable()
		return &valueStep{span{from, r.next}, kind, v, 0}
	case '=':
		return r.move()
	case '^', '!':
		return &leaveStep{span{from, r.next}, kind}
	case '?':
		left := r.bracket()
		right := r.bracket()
		return &branchStep{span{from, r.next}, left, right}
	case '*':
		body := r.bracket()
		return &loopStep{span{from, r.next}, body}
	case '{':
		return r.scope()
	}
	panic(misfit(from))
}

// move reads what follows the = of a step.
func (r *reader) move() *valueStep {
	from := r.next - 1
	v := r.variable()
	w := r.variable()
	if v == w {
		panic(misfit(from))
	}
	return &valueStep{span{from, r.next}, '=', v, w}
}

// variable reads a variable that is declared around the step in which it stands.
func (r *reader) variable() byte {
	v := r.take()
	if strings.IndexByte(r.around, v) < 0 {
		panic(misfit(r.next - 1))
	}
	return v
}

func (r *reader) bracket() []step {
	r.need('[')
	return r.stepsUpTo(']')
}

// stepsUpTo reads steps and the byte that closes them.
func (r *reader) stepsUpTo(closing byte) []step {
	var list []step
	for !r.skips(closing) {
		list = append(list, r.step())
	}
	return list
}

// scope reads what follows the { of a scope.
func (r *reader) scope() *scopeStep {
	from := r.next - 1
	if r.scopes == MaxScopes {
		panic(misfit(from))
	}
	outer := r.around
	r.scopes++
	vars := r.declared()
	body := r.stepsUpTo('}')
	r.scopes--
	r.around = outer
	return &scopeStep{span{from, r.next}, vars, body}
}

// declared reads the variables that a scope declares, at least one, and the colon behind them.
func (r *reader) declared() string {
	outer := len(r.around)
	for len(r.around) == outer || !r.skips(':') {
		v := r.take()
		if v < 'a' || v > 'f' || strings.IndexByte(r.around, v) >= 0 {
			panic(misfit(r.next - 1))
		}
		r.around += string(v)
	}
	return r.around[outer:]
}

// A place is a step together with the variables of the scopes around it and their number.
type place struct {
	step   step
	around string
	scopes int
}

// inner returns the places of the steps that stand in a step, but not those within these.
func (p place) inner() []place {
	var list []step
	around, scopes := p.around, p.scopes
	switch s := p.step.(type) {
	case *branchStep:
		list = slices.Concat(s.left, s.right)
	case *loopStep:
		list = s.body
	case *scopeStep:
		list = s.body
		around += s.vars
		scopes++
	}
	places := make([]place, 0, len(list))
	for _, s := range list {
		places = append(places, place{s, around, scopes})
	}
	return places
}

// placesWithin yields a place and all those within it, in the order in which their steps begin.
func placesWithin(p place) iter.Seq[place] {
	return func(yield func(place) bool) {
		if !yield(p) {
			return
		}
		for _, q := range p.inner() {
			for inner := range placesWithin(q) {
				if !yield(inner) {
					return
				}
			}
		}
	}
}

// placesOf returns an iterator over the places of a program; ok is false if the text is none.
func placesOf(p string) (places iter.Seq[place], ok bool) {
	root, ok := readProgram(p)
	if !ok {
		return nil, false
	}
	return placesWithin(place{step: root}), true
}

// placeAt returns the place of the step that begins at a byte of a program.
func placeAt(p string, at int) (place, bool) {
	places, ok := placesOf(p)
	if !ok {
		return place{}, false
	}
	for q := range places {
		if q.step.begin() == at {
			return q, true
		}
	}
	return place{}, false
}

// ProgramValid reports whether a text is a program.
func ProgramValid(p string) bool {
	_, ok := readProgram(p)
	return ok
}

// VarsOf returns all variables that a program declares.
func VarsOf(p string) (string, bool) {
	places, ok := placesOf(p)
	if !ok {
		return "", false
	}
	var vars []byte
	for q := range places {
		if s, isScope := q.step.(*scopeStep); isScope {
			vars = append(vars, s.vars...)
		}
	}
	slices.Sort(vars)
	return string(slices.Compact(vars)), true
}

// StepsOf returns where the steps of a program begin.
func StepsOf(p string) ([]int, bool) {
	places, ok := placesOf(p)
	if !ok {
		return nil, false
	}
	var list []int
	for q := range places {
		list = append(list, q.step.begin())
	}
	return list, true
}

// StepAt returns the text of the step that begins at a byte.
func StepAt(p string, at int) (string, bool) {
	q, ok := placeAt(p, at)
	if !ok {
		return "", false
	}
	// A part of p would share its memory, which a result must not.
	return strings.Clone(p[q.step.begin():q.step.end()]), true
}

// InScope returns the variables that are declared where a step stands.
func InScope(p string, at int) (string, bool) {
	q, ok := placeAt(p, at)
	return q.around, ok
}

// CountSteps returns how many steps of a kind a program has.
func CountSteps(p string, kind string) int {
	places, ok := placesOf(p)
	if !ok || len(kind) != 1 || !strings.Contains(kindsOfSteps, kind) {
		return -1
	}
	count := 0
	for q := range places {
		if p[q.step.begin()] == kind[0] {
			count++
		}
	}
	return count
}

// IsStraight reports whether a program has no branches and loops.
func IsStraight(p string) bool {
	places, ok := placesOf(p)
	if !ok {
		return false
	}
	for q := range places {
		switch q.step.(type) {
		case *branchStep, *loopStep:
			return false
		}
	}
	return true
}

// DepthOf returns how many scopes of a program lie within each other.
func DepthOf(p string) int {
	places, ok := placesOf(p)
	if !ok {
		return -1
	}
	depth := 0
	for q := range places {
		if _, isScope := q.step.(*scopeStep); isScope {
			depth = max(depth, q.scopes+1)
		}
	}
	return depth
}
