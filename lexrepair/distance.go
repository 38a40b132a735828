package lexrepair

// Distance returns the least number of operations that turn a into b. An operation inserts, deletes or replaces a byte or exchanges two adjacent ones, and no byte takes part in two operations.
func Distance(a, b string) int {
	before, last, row := make([]int, len(b)+1), make([]int, len(b)+1), make([]int, len(b)+1)
	for j := range row {
		row[j] = j
	}
	for i := range len(a) {
		before, last, row = last, row, before
		fill(row, last, before, a[:i+1], b)
	}
	return row[len(b)]
}

// fill sets the elements of row to the distances of a, which is not empty, and the prefixes of b. Last has those of a without its last byte, and before those of a without its last two, if it has two.
func fill(row, last, before []int, a, b string) {
	row[0] = len(a)
	for j := range len(b) {
		replaced := last[j]
		if a[len(a)-1] != b[j] {
			replaced++
		}
		row[j+1] = min(row[j]+1, last[j+1]+1, replaced)
		if j > 0 && exchanged(a, b[:j+1]) {
			row[j+1] = min(row[j+1], before[j-1]+1)
		}
	}
}

// exchanged reports whether the last two bytes of a are, in the other order, those of b, which has two or more.
func exchanged(a, b string) bool {
	return len(a) > 1 && a[len(a)-2] == b[len(b)-1] && a[len(a)-1] == b[len(b)-2]
}
