package textdiff

import "iter"

// table holds the distances of all pairs of suffixes of a and b, that of a[i:] and b[j:] at index i*(len(b)+1) + j. There are many of them and all are small, so they are stored in 32 bits.
type table struct {
	a, b      string
	distances []int32
}

// newTable returns the table of a and b.
func newTable(a, b string) table {
	t := table{a, b, make([]int32, (len(a)+1)*(len(b)+1))}
	for i, j := range suffixPairs(a, b) {
		t.distances[t.index(i, j)] = int32(t.compute(i, j))
	}
	return t
}

// suffixPairs yields the offsets of the suffixes of each pair, and those of longer suffixes behind those of shorter ones.
func suffixPairs(a, b string) iter.Seq2[int, int] {
	return func(yield func(int, int) bool) {
		for i := len(a); i >= 0; i-- {
			for j := len(b); j >= 0; j-- {
				if !yield(i, j) {
					return
				}
			}
		}
	}
}

func (t table) index(i, j int) int { return i*(len(t.b)+1) + j }

// distance returns the distance of a[i:] and b[j:].
func (t table) distance(i, j int) int { return int(t.distances[t.index(i, j)]) }

// compute returns the distance of a[i:] and b[j:] if the table has those of shorter suffixes.
func (t table) compute(i, j int) int {
	switch {
	case i == len(t.a):
		return len(t.b) - j
	case j == len(t.b):
		return len(t.a) - i
	case t.a[i] == t.b[j]:
		return t.distance(i+1, j+1)
	}
	return 1 + min(t.distance(i+1, j), t.distance(i, j+1))
}

// exhausted reports whether nothing remains of a and b.
func (t table) exhausted(i, j int) bool { return i == len(t.a) && j == len(t.b) }

// matches reports whether the canonical matching matches a[i] and b[j].
func (t table) matches(i, j int) bool {
	return i < len(t.a) && j < len(t.b) && t.a[i] == t.b[j]
}

// deletes reports whether the canonical matching deletes a[i], where it does not match. Otherwise it inserts b[j].
func (t table) deletes(i, j int) bool {
	switch {
	case i == len(t.a):
		return false
	case j == len(t.b):
		return true
	}
	return t.distance(i+1, j) <= t.distance(i, j+1)
}

// runEnd returns the offsets behind the run of deletions and insertions from offsets i and j on.
func (t table) runEnd(i, j int) (int, int) {
	for !t.exhausted(i, j) && !t.matches(i, j) {
		if t.deletes(i, j) {
			i++
		} else {
			j++
		}
	}
	return i, j
}
