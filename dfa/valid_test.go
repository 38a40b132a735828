package dfa_test

import (
	"fmt"
	"math"
	"slices"
	"testing"

	"emendate/api"
	"emendate/dfa"
)

func checkValid(t *testing.T, what string, d api.DFA, want bool) {
	t.Helper()
	if got := dfa.Valid(d); got != want {
		t.Errorf("P10.1: %s: Valid is %t", what, got)
	}
}

func TestValidClasses(t *testing.T) { // P10.1
	for _, k := range []int{1, 2, 3, 255, 256, 257, 300, 1000} {
		for _, entries := range []int{0, 1, 254, 255, 256, 257, 258, 512} {
			d := filled(2, k)
			d.Class = make([]int, entries, entries+2)
			checkValid(t, fmt.Sprint(entries, " entries of Class, ", k, " classes"), d, entries == 256)
		}
		for _, place := range []int{0, 1, 100, 254, 255} {
			for _, class := range []int{math.MinInt, -k, -2, -1, 0, 1, k / 2, k - 2, k - 1, k, k + 1, 1 << 32, math.MaxInt} {
				for _, others := range []int{0, k - 1} {
					d := filled(2, k)
					d.Class = slices.Repeat([]int{others}, 256)
					d.Class[place] = class
					checkValid(t, fmt.Sprint("class ", class, " of ", k, " at ", place), d, class >= 0 && class < k)
				}
			}
		}
	}
}

func TestValidStates(t *testing.T) { // P10.1
	checkValid(t, "the zero value", api.DFA{}, false)
	checkValid(t, "no rows", api.DFA{Class: make([]int, 256)}, false)
	checkValid(t, "no rows but an accepted number", api.DFA{Class: make([]int, 256), Accept: []int{0}}, false)
	for _, states := range []int{0, 1, 2, 3, 256, 499, 500, 501, 502, 1000, 2000} {
		for _, k := range []int{1, 3} {
			checkValid(t, fmt.Sprint(states, " states"), filled(states, k), states >= 1 && states <= 500)
		}
	}
}

func TestValidLengthsOfRows(t *testing.T) { // P10.1
	for _, states := range []int{1, 2, 3, 500} {
		for _, k := range []int{0, 1, 2, 5} {
			checkValid(t, fmt.Sprint(states, " states, ", k, " classes"), filled(states, k), k > 0)
			for _, place := range []int{0, states / 2, states - 1} {
				for _, other := range []int{0, 1, 2, 3, 5, 6} {
					d := filled(states, k)
					d.Next[place] = make([]int, other, other+5)
					checkValid(t, fmt.Sprint(states, " states, ", k, " classes but ", other, " in row ", place), d, other > 0 && (other == k || states == 1))
				}
				d := filled(states, k)
				d.Next[place] = nil
				checkValid(t, fmt.Sprint("row ", place, " of ", states, " is nil"), d, false)
			}
		}
	}
}

func TestValidSuccessors(t *testing.T) { // P10.1
	for _, states := range []int{1, 2, 5, 500} {
		for _, k := range []int{1, 2, 4, 257} {
			for _, to := range []int{math.MinInt, -1 << 32, -states, -3, -2, -1, 0, 1, states / 2, states - 1, states, states + 1, k - 1, k, 1 << 32, math.MaxInt} {
				for _, row := range []int{0, states / 2, states - 1} {
					for _, class := range []int{0, k / 2, k - 1} {
						for _, others := range []int{-1, 0, states - 1} {
							d := filled(states, k)
							for i := range d.Next {
								d.Next[i] = slices.Repeat([]int{others}, k)
							}
							d.Next[row][class] = to
							checkValid(t, fmt.Sprint("successor ", to, " of ", states, " in row ", row, " for class ", class), d, to >= -1 && to < states)
						}
					}
				}
			}
		}
	}
}

func TestValidAccept(t *testing.T) { // P10.1
	for _, states := range []int{1, 2, 3, 500} {
		for _, entries := range []int{0, 1, 2, states - 1, states, states + 1, states + 2} {
			for _, number := range []int{-1, 0} {
				d := filled(states, 2)
				d.Accept = slices.Repeat([]int{number}, entries)
				checkValid(t, fmt.Sprint(states, " states, ", entries, " entries of Accept"), d, entries == states)
			}
		}
		for _, place := range []int{0, states / 2, states - 1} {
			for _, number := range []int{math.MinInt, -1 << 32, -3, -2, -1, 0, 1, 499, 500, 2000, math.MaxInt} {
				for _, others := range []int{-1, 0, 7} {
					d := filled(states, 2)
					d.Accept = slices.Repeat([]int{others}, states)
					d.Accept[place] = number
					checkValid(t, fmt.Sprint(states, " states, entry ", place, " of Accept is ", number), d, number >= -1)
				}
			}
		}
	}
}

func TestValidIgnoresSpareCapacity(t *testing.T) { // P10.1
	d := filled(1, 1)
	d.Class = append(make([]int, 256), -9)[:256]
	d.Next = [][]int{[]int{0, 9}[:1], {8, 7}}[:1]
	d.Accept = []int{0, -2}[:1]
	checkValid(t, "invalid elements in spare capacity", d, true)
}

// No fault makes up for another one.
func TestValidWithSeveralFaults(t *testing.T) { // P10.1
	faults := []func(d *api.DFA){
		func(d *api.DFA) { d.Class = d.Class[:255] },
		func(d *api.DFA) { d.Class[7] = -1 },
		func(d *api.DFA) { d.Class[8] = 2 },
		func(d *api.DFA) { d.Next[0] = []int{0} },
		func(d *api.DFA) { d.Next[1] = []int{0, 0, 0} },
		func(d *api.DFA) { d.Next[2][0] = -2 },
		func(d *api.DFA) { d.Next[2][1] = 3 },
		func(d *api.DFA) { d.Accept = d.Accept[:2] },
		func(d *api.DFA) { d.Accept[0] = -2 },
	}
	for chosen := range 1 << len(faults) {
		d := filled(3, 2)
		for i, fault := range faults {
			if chosen>>i&1 == 1 {
				fault(&d)
			}
		}
		checkValid(t, fmt.Sprintf("faults %b", chosen), d, chosen == 0)
	}
}
