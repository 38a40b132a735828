package dfa_test

import (
	"fmt"
	"math/rand"
	"slices"

	"emendate/api"
)

// Deterministic automata.

// classes returns the classes by byte: the bytes of the first group have class 1, those of the second class 2, all others class 0.
func classes(groups ...string) []int {
	l := make([]int, 256)
	for i, group := range groups {
		for _, b := range []byte(group) {
			l[b] = i + 1
		}
	}
	return l
}

// automaton returns an automaton with the given classes, rows and accepted numbers.
func automaton(class []int, accept []int, rows ...[]int) api.DFA {
	return api.DFA{Class: class, Next: rows, Accept: accept}
}

// filled returns an automaton whose entries are 0, but for the accepted numbers, which are -1.
func filled(states, classes int) api.DFA {
	d := api.DFA{Class: make([]int, 256), Accept: slices.Repeat([]int{-1}, states)}
	for range states {
		d.Next = append(d.Next, make([]int, classes))
	}
	return d
}

// copyOf returns d in memory of its own.
func copyOf(d api.DFA) api.DFA {
	d.Class, d.Next, d.Accept = slices.Clone(d.Class), slices.Clone(d.Next), slices.Clone(d.Accept)
	for i := range d.Next {
		d.Next[i] = slices.Clone(d.Next[i])
	}
	return d
}

func equalAutomata(a, b api.DFA) bool {
	return slices.Equal(a.Class, b.Class) && slices.EqualFunc(a.Next, b.Next, slices.Equal[[]int]) && slices.Equal(a.Accept, b.Accept)
}

// show writes an automaton without the bytes of class 0.
func show(d api.DFA) string {
	class := map[string]int{}
	for b, c := range d.Class {
		if c != 0 {
			class[fmt.Sprintf("%q", string([]byte{byte(b)}))] = c
		}
	}
	return fmt.Sprint("{", class, d.Next, d.Accept, "}")
}

// follow returns the state behind s, or -1 if there is none.
func follow(d api.DFA, state int, s string) int {
	for i := 0; i < len(s) && state >= 0; i++ {
		state = d.Next[state][d.Class[s[i]]]
	}
	return state
}

// result returns the result of the run of d on s.
func result(d api.DFA, s string) int {
	if state := follow(d, 0, s); state >= 0 {
		return d.Accept[state]
	}
	return -1
}

// leasts returns the bytes before which no byte has the same classes in the automata, in increasing order.
func leasts(l ...api.DFA) []byte {
	var bytes []byte
	for b := range 256 {
		same := func(other byte) bool {
			return !slices.ContainsFunc(l, func(d api.DFA) bool { return d.Class[other] != d.Class[b] })
		}
		if !slices.ContainsFunc(bytes, same) {
			bytes = append(bytes, byte(b))
		}
	}
	return bytes
}

// isLive reports whether a string leads from the state to one that accepts a number.
func isLive(d api.DFA, state int) bool {
	bytes, seen := leasts(d), map[int]bool{}
	var visit func(state int) bool
	visit = func(state int) bool {
		if state < 0 || seen[state] {
			return false
		}
		seen[state] = true
		return d.Accept[state] >= 0 || slices.ContainsFunc(bytes, func(b byte) bool { return visit(d.Next[state][d.Class[b]]) })
	}
	return visit(state)
}

// without returns d without the transitions to states that are not live.
func without(d api.DFA) api.DFA {
	d = copyOf(d)
	live := make([]bool, len(d.Next))
	for state := range live {
		live[state] = isLive(d, state)
	}
	for _, row := range d.Next {
		for class, to := range row {
			if to >= 0 && !live[to] {
				row[class] = -1
			}
		}
	}
	return d
}

// differing tells for each two states of an automaton without transitions to states that are not live whether a string tells them apart.
func differing(d api.DFA) [][]bool {
	bytes := leasts(d)
	l := make([][]bool, len(d.Next))
	for i := range l {
		l[i] = make([]bool, len(d.Next))
	}
	for changed := true; changed; {
		changed = false
		for i := range l {
			for k := range l {
				if !l[i][k] && (d.Accept[i] != d.Accept[k] || slices.ContainsFunc(bytes, func(b byte) bool {
					to, other := d.Next[i][d.Class[b]], d.Next[k][d.Class[b]]
					return min(to, other) < 0 && to != other || to >= 0 && other >= 0 && l[to][other]
				})) {
					l[i][k], changed = true, true
				}
			}
		}
	}
	return l
}

// minimal returns the minimal automaton of d, byte by byte as the chapter describes it.
func minimal(d api.DFA) api.DFA {
	d = without(d)
	differ, bytes := differing(d), leasts(d)
	states := []int{0} // of d, by state of the minimal automaton
	find := func(state int) int {
		return slices.IndexFunc(states, func(other int) bool { return !differ[state][other] })
	}
	var rows []string // by state: the successors by byte, as characters
	m := api.DFA{Class: make([]int, 256)}
	for i := 0; i < len(states); i++ {
		successors := map[int]int{} // by class of d
		for _, b := range bytes {
			to := d.Next[states[i]][d.Class[b]]
			if to < 0 {
				successors[d.Class[b]] = -1
				continue
			}
			if find(to) < 0 {
				states = append(states, to)
			}
			successors[d.Class[b]] = find(to)
		}
		var row []rune
		for b := range 256 {
			row = append(row, rune(successors[d.Class[b]]+1))
		}
		rows = append(rows, string(row))
		m.Accept = append(m.Accept, d.Accept[states[i]])
	}
	split(&m, rows)
	return m
}

// split gives m its classes and rows, from rows with an entry for each byte.
func split(m *api.DFA, rows []string) {
	var columns [][]int // by class
	wide := make([][]rune, len(rows))
	for i, row := range rows {
		wide[i] = []rune(row)
	}
	for b := range 256 {
		var column []int
		for _, row := range wide {
			column = append(column, int(row[b])-1)
		}
		m.Class[b] = slices.IndexFunc(columns, func(l []int) bool { return slices.Equal(l, column) })
		if m.Class[b] < 0 {
			m.Class[b] = len(columns)
			columns = append(columns, column)
		}
	}
	for state := range rows {
		var row []int
		for _, column := range columns {
			row = append(row, column[state])
		}
		m.Next = append(m.Next, row)
	}
}

// A pair is a state of each of two automata, or -1 where a run has ended.
type pair struct{ a, b int }

// difference returns the shortest and least string for which the results differ. It first finds how long the strings are that tell the states of each pair apart, and then goes from pair to pair.
func difference(a, b api.DFA) (string, bool) {
	bytes := leasts(a, b)
	after := func(p pair, by byte) pair {
		s := string([]byte{by})
		return pair{follow(a, p.a, s), follow(b, p.b, s)}
	}
	number := func(d api.DFA, state int) int {
		if state < 0 {
			return -1
		}
		return d.Accept[state]
	}
	length := map[pair]int{} // 1 more than the length
	for changed := true; changed; {
		changed = false
		for x := -1; x < len(a.Next); x++ {
			for y := -1; y < len(b.Next); y++ {
				p := pair{x, y}
				best := length[p]
				if number(a, x) != number(b, y) {
					best = 1
				}
				for _, by := range bytes {
					if n := length[after(p, by)]; n > 0 && (best == 0 || n+1 < best) {
						best = n + 1
					}
				}
				if best != length[p] {
					length[p], changed = best, true
				}
			}
		}
	}
	var s []byte
	for p := (pair{}); length[p] > 1; {
		i := slices.IndexFunc(bytes, func(by byte) bool { return length[after(p, by)] == length[p]-1 })
		s = append(s, bytes[i])
		p = after(p, bytes[i])
	}
	return string(s), length[pair{}] > 0
}

// smallAutomata returns all automata with the given classes, number of states and of classes, and greatest accepted number.
func smallAutomata(class []int, states, classes, most int) []api.DFA {
	l := []api.DFA{{Class: class}}
	for range states {
		var longer []api.DFA
		for _, d := range l {
			for _, row := range lists(classes, states-1) {
				for number := -1; number <= most; number++ {
					longer = append(longer, api.DFA{Class: class, Next: append(slices.Clone(d.Next), row), Accept: append(slices.Clone(d.Accept), number)})
				}
			}
		}
		l = longer
	}
	return l
}

// lists returns all lists of the given length of numbers from -1 to most.
func lists(length, most int) [][]int {
	l := [][]int{nil}
	for range length {
		var longer [][]int
		for _, x := range l {
			for number := -1; number <= most; number++ {
				longer = append(longer, append(slices.Clone(x), number))
			}
		}
		l = longer
	}
	return l
}

// randomDFA returns a valid automaton with at most the given numbers of states and classes.
func randomDFA(random *rand.Rand, states, classes int) api.DFA {
	states, classes = 1+random.Intn(states), 1+random.Intn(classes)
	d := filled(states, classes)
	for i := 0; i < 256; {
		class := random.Intn(classes)
		for range 1 + random.Intn(1+random.Intn(128)) {
			d.Class[min(i, 255)] = class
			i++
		}
	}
	for _, b := range []byte("ab\x00\xff") {
		d.Class[b] = random.Intn(classes)
	}
	missing, most := random.Intn(4), random.Intn(3)
	for state, row := range d.Next {
		for class := range row {
			row[class] = max(-1, random.Intn(states+missing)-missing)
		}
		if random.Intn(3) == 0 {
			d.Accept[state] = random.Intn(most + 1)
		}
	}
	return d
}

// disguise returns an automaton that is equivalent to d: with copies of states, states that are not reachable or not live, and classes that are split, not used and in another order.
func disguise(random *rand.Rand, d api.DFA) api.DFA {
	d = copyOf(d)
	states, classes := len(d.Next), len(d.Next[0])
	origin := random.Perm(states) // by new state: the state that it copies; those beyond are not live
	for range random.Intn(4) {
		origin = append(origin, random.Intn(states))
	}
	origin[slices.Index(origin, 0)], origin[0] = origin[0], 0
	lives := len(origin)
	deads := random.Intn(3)
	from := random.Perm(classes) // by new class: the class that it is a part of; one may be in use nowhere
	for range random.Intn(4) {
		from = append(from, random.Intn(classes))
	}
	used := len(from)
	all := used + random.Intn(2)
	e := filled(lives+deads, all)
	e.Class = pickClasses(random, d.Class, from)
	for state, row := range e.Next {
		for class := range row {
			switch {
			case class >= used:
				row[class] = random.Intn(lives+deads+1) - 1
			case state >= lives:
				row[class] = deadState(random, lives, deads)
			default:
				row[class] = likeState(random, d.Next[origin[state]][from[class]], origin, deads)
			}
		}
		if state < lives {
			e.Accept[state] = d.Accept[origin[state]]
		}
	}
	return e
}

// pickClasses returns for each byte one of the indices in from of its class.
func pickClasses(random *rand.Rand, class, from []int) []int {
	var l []int
	for _, c := range class {
		var parts []int
		for i, x := range from {
			if x == c {
				parts = append(parts, i)
			}
		}
		l = append(l, parts[random.Intn(len(parts))])
	}
	return l
}

// likeState returns a new state that copies the given one.
func likeState(random *rand.Rand, state int, origin []int, deads int) int {
	if state < 0 {
		return deadState(random, len(origin), deads)
	}
	var l []int
	for i, x := range origin {
		if x == state {
			l = append(l, i)
		}
	}
	return l[random.Intn(len(l))]
}

// deadState returns -1 or one of the given number of states from lives on.
func deadState(random *rand.Rand, lives, deads int) int {
	if i := random.Intn(deads + 1); i < deads {
		return lives + i
	}
	return -1
}

// allStrings returns all strings of the given bytes up to a length, the shorter ones first and those of one length in order if the bytes are.
func allStrings(bytes string, length int) []string {
	all, last := []string{""}, []string{""}
	for range length {
		var longer []string
		for _, s := range last {
			for i := range len(bytes) {
				longer = append(longer, s+bytes[i:i+1])
			}
		}
		all, last = append(all, longer...), longer
	}
	return all
}

// randomString returns a string of less than the given number of bytes.
func randomString(random *rand.Rand, length int) string {
	var s []byte
	for range random.Intn(length) {
		s = append(s, "aaaabbbb\x00\xffc"[random.Intn(11)])
	}
	return string(s)
}

// Nondeterministic automata.

// bytesOf returns the set of the bytes of s.
func bytesOf(s string) api.Set {
	var set api.Set
	for _, b := range []byte(s) {
		set[b/64] |= 1 << (b % 64)
	}
	return set
}

// allBytes is the set of all bytes.
func allBytes() api.Set { return api.Set{^uint64(0), ^uint64(0), ^uint64(0), ^uint64(0)} }

// silent returns an epsilon transition.
func silent(from, to int) api.NFAArc { return api.NFAArc{From: from, To: to, Epsilon: true} }

// on returns an arc on the given bytes.
func on(from, to int, bytes string) api.NFAArc {
	return api.NFAArc{From: from, To: to, Set: bytesOf(bytes)}
}

// onAll returns an arc on all bytes.
func onAll(from, to int) api.NFAArc { return api.NFAArc{From: from, To: to, Set: allBytes()} }

// source returns a nondeterministic automaton with start state 0.
func source(accept []int, arcs ...api.NFAArc) api.NFA {
	return api.NFA{States: len(accept), Arcs: arcs, Accept: accept}
}

// silence returns a list of as many numbers, all -1.
func silence(states int) []int { return slices.Repeat([]int{-1}, states) }

// randomNFA returns a valid automaton with at most the given numbers of states and arcs.
func randomNFA(random *rand.Rand, states, arcs int) api.NFA {
	n := source(silence(1 + random.Intn(states)))
	n.Start = random.Intn(n.States)
	for i := range n.Accept {
		n.Accept[i] = max(-1, random.Intn(9)-4)
	}
	silents := random.Intn(4) // one arc in so many; none if 0
	for range random.Intn(arcs + 1) {
		a := on(random.Intn(n.States), random.Intn(n.States), []string{"a", "b", "ab", "", "\x00", "a\xff", "bc"}[random.Intn(7)])
		if silents > 0 && random.Intn(silents) == 0 {
			a = silent(a.From, a.To)
		}
		n.Arcs = append(n.Arcs, a)
	}
	return n
}
