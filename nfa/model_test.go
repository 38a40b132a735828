package nfa_test

import (
	"math/rand"
	"slices"

	"emendate/api"
)

// bytesOf returns the set of the bytes of s.
func bytesOf(s string) api.Set {
	var set api.Set
	for _, b := range []byte(s) {
		set[b/64] |= 1 << (b % 64)
	}
	return set
}

func has(s api.Set, b byte) bool { return s[b/64]&(1<<(b%64)) != 0 }

// allBytes is the set of all bytes.
func allBytes() api.Set { return api.Set{^uint64(0), ^uint64(0), ^uint64(0), ^uint64(0)} }

// Automata.

// silent returns an epsilon transition.
func silent(from, to int) api.NFAArc { return api.NFAArc{From: from, To: to, Epsilon: true} }

// on returns an arc on the given bytes.
func on(from, to int, bytes string) api.NFAArc {
	return api.NFAArc{From: from, To: to, Set: bytesOf(bytes)}
}

// automaton returns an automaton with start state 0 that accepts nothing.
func automaton(states int, arcs ...api.NFAArc) api.NFA {
	return api.NFA{States: states, Arcs: arcs, Accept: slices.Repeat([]int{-1}, max(states, 0))}
}

// copyOf returns n in memory of its own.
func copyOf(n api.NFA) api.NFA {
	n.Arcs, n.Accept = slices.Clone(n.Arcs), slices.Clone(n.Accept)
	return n
}

func equalAutomata(a, b api.NFA) bool {
	return a.States == b.States && a.Start == b.Start && slices.Equal(a.Arcs, b.Arcs) && slices.Equal(a.Accept, b.Accept)
}

// reached returns the states that n reaches by the string s from the given ones, by trying all paths.
func reached(n api.NFA, states []int, s string) []int {
	type place struct{ state, at int }
	seen := map[place]bool{}
	var all []int
	var visit func(p place)
	visit = func(p place) {
		if p.state < 0 || p.state >= n.States || seen[p] {
			return
		}
		seen[p] = true
		if p.at == len(s) {
			all = append(all, p.state)
		}
		for _, a := range n.Arcs {
			switch {
			case a.From != p.state:
			case a.Epsilon:
				visit(place{a.To, p.at})
			case p.at < len(s) && has(a.Set, s[p.at]):
				visit(place{a.To, p.at + 1})
			}
		}
	}
	for _, state := range states {
		visit(place{state, 0})
	}
	slices.Sort(all)
	return all
}

// accepted returns the least nonnegative number that one of the states accepts, or -1.
func accepted(n api.NFA, states []int) int {
	var all []int
	for _, state := range states {
		if n.Accept[state] >= 0 {
			all = append(all, n.Accept[state])
		}
	}
	if len(all) == 0 {
		return -1
	}
	return slices.Min(all)
}

// randomAutomaton returns a valid automaton with at most the given numbers of states and arcs.
func randomAutomaton(random *rand.Rand, states, arcs int) api.NFA {
	n := automaton(1 + random.Intn(states))
	n.Start = random.Intn(n.States)
	for i := range n.Accept {
		n.Accept[i] = max(-1, random.Intn(9)-4)
	}
	for range random.Intn(arcs + 1) {
		a := api.NFAArc{From: random.Intn(n.States), To: random.Intn(n.States), Epsilon: random.Intn(3) == 0}
		if !a.Epsilon {
			a.Set = bytesOf([]string{"a", "b", "ab", "", "\x00", "a\xff"}[random.Intn(6)])
		}
		n.Arcs = append(n.Arcs, a)
	}
	return n
}

// randomStates returns a list of states of n and of numbers that are none.
func randomStates(random *rand.Rand, n api.NFA) []int {
	var l []int
	for range random.Intn(5) {
		l = append(l, random.Intn(n.States+4)-2)
	}
	return l
}

// randomString returns a string of less than the given number of bytes.
func randomString(random *rand.Rand, length int) string {
	var s []byte
	for range random.Intn(length) {
		s = append(s, "aaaabbbb\x00\xffc"[random.Intn(11)])
	}
	return string(s)
}

// Expressions.

func none() api.Regex                    { return api.Regex{Kind: api.RxNone} }
func empty() api.Regex                   { return api.Regex{Kind: api.RxEmpty} }
func set(bytes string) api.Regex         { return api.Regex{Kind: api.RxSet, Set: bytesOf(bytes)} }
func concat(kids ...api.Regex) api.Regex { return api.Regex{Kind: api.RxConcat, Kids: kids} }
func union(kids ...api.Regex) api.Regex  { return api.Regex{Kind: api.RxUnion, Kids: kids} }
func star(kid api.Regex) api.Regex       { return api.Regex{Kind: api.RxStar, Kids: []api.Regex{kid}} }
func option(kid api.Regex) api.Regex     { return union(kid, empty()) }

func equalRegexes(a, b api.Regex) bool {
	return a.Kind == b.Kind && a.Set == b.Set && slices.EqualFunc(a.Kids, b.Kids, equalRegexes)
}

// copyOfRegexes returns l in memory of its own.
func copyOfRegexes(l []api.Regex) []api.Regex {
	l = slices.Clone(l)
	for i := range l {
		l[i].Kids = copyOfRegexes(l[i].Kids)
	}
	return l
}

// smallRegexes returns all expressions of at most the given height with the given leaves and at most two kids.
func smallRegexes(height int, leaves []api.Regex) []api.Regex {
	if height == 1 {
		return leaves
	}
	all := slices.Clone(leaves)
	kids := smallRegexes(height-1, leaves)
	for _, a := range kids {
		all = append(all, star(a))
		for _, b := range kids {
			all = append(all, concat(a, b), union(a, b))
		}
	}
	return all
}

// randomRegex returns an expression of at most the given height.
func randomRegex(random *rand.Rand, height int) api.Regex {
	kind := random.Intn(10)
	if height == 1 || kind > 7 {
		return []api.Regex{none(), empty(), set("a"), set("b"), set("ab"), set("a"), set("b\x00\xff")}[random.Intn(7)]
	}
	if kind < 2 {
		return star(randomRegex(random, height-1))
	}
	var kids []api.Regex
	for range 2 + random.Intn(3)*random.Intn(2) {
		kids = append(kids, randomRegex(random, height-1))
	}
	if kind < 5 {
		return union(kids...)
	}
	return concat(kids...)
}

// randomRegexes returns a list of at most the given number of expressions.
func randomRegexes(random *rand.Rand, most, height int) []api.Regex {
	var l []api.Regex
	for range random.Intn(most + 1) {
		l = append(l, randomRegex(random, 1+random.Intn(height)))
	}
	return l
}

// Positions.

// A description tells what the chapter defines for an expression. Pairs are written as {from, to}.
type description struct {
	nullable    bool
	first, last map[int]bool
	pairs       map[[2]int]bool
}

// describe describes an expression whose occurrences are numbered behind those of sets, to which it adds their sets.
func describe(r api.Regex, sets *[]api.Set) description {
	d := description{first: map[int]bool{}, last: map[int]bool{}, pairs: map[[2]int]bool{}}
	var kids []description
	for _, kid := range r.Kids {
		x := describe(kid, sets)
		for pair := range x.pairs {
			d.pairs[pair] = true
		}
		kids = append(kids, x)
	}
	switch r.Kind {
	case api.RxEmpty:
		d.nullable = true
	case api.RxSet:
		*sets = append(*sets, r.Set)
		d.first[len(*sets)], d.last[len(*sets)] = true, true
	case api.RxConcat:
		d.describeConcat(kids)
	case api.RxUnion:
		for _, kid := range kids {
			d.nullable = d.nullable || kid.nullable
			addAll(d.first, kid.first)
			addAll(d.last, kid.last)
		}
	case api.RxStar:
		d.nullable = true
		addAll(d.first, kids[0].first)
		addAll(d.last, kids[0].last)
		d.addPairs(kids[0].last, kids[0].first)
	}
	return d
}

// describeConcat looks at all kids, and at all pairs of kids, by themselves.
func (d *description) describeConcat(kids []description) {
	d.nullable = allNullable(kids)
	for i, kid := range kids {
		if allNullable(kids[:i]) {
			addAll(d.first, kid.first)
		}
		if allNullable(kids[i+1:]) {
			addAll(d.last, kid.last)
		}
		for k := i + 1; k < len(kids); k++ {
			if allNullable(kids[i+1 : k]) {
				d.addPairs(kid.last, kids[k].first)
			}
		}
	}
}

func (d *description) addPairs(from, to map[int]bool) {
	for a := range from {
		for b := range to {
			d.pairs[[2]int{a, b}] = true
		}
	}
}

func allNullable(l []description) bool {
	return !slices.ContainsFunc(l, func(d description) bool { return !d.nullable })
}

func addAll(to, from map[int]bool) {
	for x := range from {
		to[x] = true
	}
}

// positions returns the position automaton of l, as the chapter describes it.
func positions(l []api.Regex) api.NFA {
	var sets []api.Set
	accept := map[int]int{} // by state: 1 more than the number
	arcs := map[[2]int]bool{}
	for i, r := range l {
		d := describe(r, &sets)
		if d.nullable && accept[0] == 0 {
			accept[0] = i + 1
		}
		for x := range d.last {
			accept[x] = i + 1
		}
		for x := range d.first {
			arcs[[2]int{0, x}] = true
		}
		for pair := range d.pairs {
			arcs[pair] = true
		}
	}
	n := api.NFA{States: len(sets) + 1}
	for from := range n.States {
		n.Accept = append(n.Accept, accept[from]-1)
		for to := range n.States {
			if arcs[[2]int{from, to}] {
				n.Arcs = append(n.Arcs, api.NFAArc{From: from, To: to, Set: sets[to-1]})
			}
		}
	}
	return n
}
