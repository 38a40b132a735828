package textedit

import "emendate/api"

// composition is the effect of some edits in sequence. The bytes that no edit has reached are the same ones in both strings, so the hull of the changed ranges is what lies between them.
type composition struct {
	first, last   string // the strings before and after the edits
	before, after int    // the numbers of bytes before and after the hull
}

// then returns the composition of c and one more edit, or the error of that edit.
func (c composition) then(e api.Edit) (composition, api.Errno) {
	last, err := Apply(c.last, e)
	if err != api.OK {
		return composition{}, err
	}
	c.before = min(c.before, e.At)
	c.after = min(c.after, len(c.last)-e.At-e.Del)
	c.last = last
	return c, api.OK
}

// edit returns the single edit that has the effect of c, which is of at least one edit.
func (c composition) edit() api.Edit {
	return api.Edit{
		At:  c.before,
		Del: len(c.first) - c.after - c.before,
		Ins: c.last[c.before : len(c.last)-c.after],
	}
}

// Compose returns a single edit that has the effect of the edits of l in sequence, or the error of ApplyAll(s, l).
func Compose(s string, l []api.Edit) (api.Edit, api.Errno) {
	if len(l) == 0 {
		return api.Edit{}, api.OK
	}
	// Nothing is reached yet, so that the first edit alone makes the hull.
	c := composition{first: s, last: s, before: len(s), after: len(s)}
	step := c.then
	for _, e := range l {
		next, err := step(e)
		if err != api.OK {
			return api.Edit{}, err
		}
		// A method value keeps a copy of its receiver, so each step is bound to the composition before it.
		c, step = next, next.then
	}
	return c.edit(), api.OK
}
