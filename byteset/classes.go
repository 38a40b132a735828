package byteset

import "emendate/api"

// byteCount is the number of different bytes, and so the greatest number of classes.
const byteCount = 256

// Classes returns the class number of each byte: two bytes have the same one if they are in the same sets of l. The classes are numbered from 0 in the order of their least elements.
func Classes(l []api.Set) []int {
	classes := make([]int, byteCount)
	for _, s := range l {
		for b := range All(s) {
			classes[b] += byteCount // apart from all bytes outside s
		}
		renumber(classes)
	}
	return classes
}

// renumber replaces class numbers below 2*byteCount by those from 0 on, in the order of the least elements.
func renumber(classes []int) {
	var numbers [2 * byteCount]int // 1 more than the new number, or 0 if there is none yet
	count := 0
	for b, class := range classes {
		if numbers[class] == 0 {
			count++
			numbers[class] = count
		}
		classes[b] = numbers[class] - 1
	}
}
