package layout

// Levels are the depths of the open levels, as a stack whose lowest element is that of the base level.
type levels []int

// top returns the depth of the top level.
func (l *levels) top() int { return (*l)[len(*l)-1] }

// below returns the depth of the second level from the top, or -1, which is less than every indentation, if there is none.
func (l *levels) below() int {
	if len(*l) == 1 {
		return -1
	}
	return (*l)[len(*l)-2]
}

// push opens a level of the given depth.
func (l *levels) push(depth int) { *l = append(*l, depth) }

// pop closes the top level.
func (l *levels) pop() { *l = (*l)[:len(*l)-1] }
