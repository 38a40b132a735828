package textedit_test

import (
	"testing"

	"emendate/api"
	"emendate/textedit"
)

// composed follows the chapter: it extends the range in the current string and that of s, edit by edit.
func composed(s string, l []api.Edit) api.Edit {
	if len(l) == 0 {
		return api.Edit{}
	}
	from, to := l[0].At, l[0].At+l[0].Del // in the current string
	first, last := from, to               // in s
	for _, e := range l {
		for from > e.At {
			from--
			first--
		}
		for to < e.At+e.Del {
			to++
			last++
		}
		s = model(s, e)
		to += len(e.Ins) - e.Del
	}
	return api.Edit{At: first, Del: last - first, Ins: s[from:to]}
}

func checkCompose(t *testing.T, s string, l []api.Edit, want api.Edit) {
	t.Helper()
	if got, err := textedit.Compose(s, l); got != want || err != api.OK {
		t.Errorf("Compose(%q, %v): %v, error %d, want %v", s, l, got, err, want)
	}
}

func TestCompose(t *testing.T) { // P3.3
	for _, c := range []struct {
		what string
		l    []api.Edit
		want api.Edit
	}{
		{"no edits", nil, api.Edit{}},
		{"no edits", []api.Edit{}, api.Edit{}},
		{"one edit", []api.Edit{{At: 2, Del: 3, Ins: "X"}}, api.Edit{At: 2, Del: 3, Ins: "X"}},
		{"one edit that changes nothing", []api.Edit{{At: 4}}, api.Edit{At: 4}},
		{"one edit that puts back what it deletes", []api.Edit{{At: 1, Del: 3, Ins: "bcd"}}, api.Edit{At: 1, Del: 3, Ins: "bcd"}},
		{"at the end", []api.Edit{{At: 6, Ins: "X"}}, api.Edit{At: 6, Ins: "X"}},
		{"the whole string", []api.Edit{{Del: 6}, {Ins: "X"}}, api.Edit{Del: 6, Ins: "X"}},

		{"touching on the left", []api.Edit{{At: 3, Del: 1, Ins: "X"}, {At: 1, Del: 2, Ins: "Y"}}, api.Edit{At: 1, Del: 3, Ins: "YX"}},
		{"touching on the right", []api.Edit{{At: 2, Del: 1, Ins: "XYZ"}, {At: 5, Del: 1, Ins: "W"}}, api.Edit{At: 2, Del: 2, Ins: "XYZW"}},
		{"inserting at the start of the range", []api.Edit{{At: 2, Del: 1, Ins: "X"}, {At: 2, Ins: "Y"}}, api.Edit{At: 2, Del: 1, Ins: "YX"}},
		{"inserting at the end of the range", []api.Edit{{At: 2, Del: 1, Ins: "X"}, {At: 3, Ins: "Y"}}, api.Edit{At: 2, Del: 1, Ins: "XY"}},

		{"overlapping on the left", []api.Edit{{At: 3, Del: 1, Ins: "XYZ"}, {At: 1, Del: 4, Ins: "-"}}, api.Edit{At: 1, Del: 3, Ins: "-Z"}},
		{"overlapping on the right", []api.Edit{{At: 2, Del: 1, Ins: "XYZ"}, {At: 4, Del: 2}}, api.Edit{At: 2, Del: 2, Ins: "XY"}},
		{"overlapping on both sides", []api.Edit{{At: 2, Del: 1, Ins: "XY"}, {At: 1, Del: 4, Ins: "-"}}, api.Edit{At: 1, Del: 3, Ins: "-"}},

		{"lying inside", []api.Edit{{At: 2, Ins: "xyz"}, {At: 3, Del: 1}}, api.Edit{At: 2, Ins: "xz"}},
		{"inserting inside", []api.Edit{{At: 2, Del: 2, Ins: "xyz"}, {At: 4, Ins: "-"}}, api.Edit{At: 2, Del: 2, Ins: "xy-z"}},
		{"undoing the first one", []api.Edit{{At: 2, Ins: "x"}, {At: 2, Del: 1}}, api.Edit{At: 2}},
		{"putting back what was deleted", []api.Edit{{At: 2, Del: 2}, {At: 2, Ins: "cd"}}, api.Edit{At: 2, Del: 2, Ins: "cd"}},

		{"apart on the left", []api.Edit{{At: 4, Ins: "z"}, {At: 0, Del: 2, Ins: "q"}}, api.Edit{At: 0, Del: 4, Ins: "qcdz"}},
		{"apart on the right", []api.Edit{{At: 1, Del: 1, Ins: "XY"}, {At: 4, Del: 1}}, api.Edit{At: 1, Del: 3, Ins: "XYc"}},
		{"inserting apart on the left", []api.Edit{{At: 4, Del: 1}, {At: 2, Ins: "X"}}, api.Edit{At: 2, Del: 3, Ins: "Xcd"}},
		{"inserting apart on the right", []api.Edit{{At: 1, Del: 1}, {At: 5, Ins: "X"}}, api.Edit{At: 1, Del: 5, Ins: "cdefX"}},
		{"changing nothing apart on the left", []api.Edit{{At: 4, Del: 1}, {At: 1}}, api.Edit{At: 1, Del: 4, Ins: "bcd"}},
		{"changing nothing apart on the right", []api.Edit{{At: 1, Ins: "XYZ"}, {At: 6}}, api.Edit{At: 1, Del: 2, Ins: "XYZbc"}},
		{"after one that changes nothing", []api.Edit{{At: 5}, {At: 1, Del: 1}}, api.Edit{At: 1, Del: 4, Ins: "cde"}},

		{"on both sides", []api.Edit{{At: 3, Ins: "XY"}, {At: 1, Del: 1}, {At: 6, Del: 1, Ins: "--"}}, api.Edit{At: 1, Del: 5, Ins: "cXYde--"}},
		{"deleting all", []api.Edit{{At: 3, Ins: "XY"}, {At: 7, Del: 1}, {Del: 7}, {}}, api.Edit{Del: 6}},
	} {
		t.Run(c.what, func(t *testing.T) { checkCompose(t, "abcdef", c.l, c.want) })
	}
}

func TestComposeOfTwoEdits(t *testing.T) { // P3.3
	s := "abcd"
	eachEdit(len(s), func(a api.Edit) {
		checkCompose(t, s, []api.Edit{a}, a)
		eachEdit(len(s)+len(a.Ins)-a.Del, func(b api.Edit) {
			l := []api.Edit{a, b}
			checkCompose(t, s, l, composed(s, l))
		})
	})
}

func TestComposeOfManyEdits(t *testing.T) { // P3.3
	x := numbers(3)
	for i := range 1000 {
		s := "abcdefghijklmnopqrstuvwxyz"[:x.below(27)]
		l := someEdits(&x, s, i%12)
		checkCompose(t, s, l, composed(s, l))
	}
}

func TestComposeHasTheEffectOfTheList(t *testing.T) { // P3.3, P3.5
	x := numbers(4)
	for i := range 1000 {
		s := "abcdefghijklmnopqrstuvwxyz"[:x.below(27)]
		l := someEdits(&x, s, i%12)
		e, err := textedit.Compose(s, l)
		if err != api.OK {
			t.Fatalf("Compose(%q, %v): error %d", s, l, err)
		}
		all, _ := textedit.ApplyAll(s, l)
		once, err := textedit.Apply(s, e)
		if once != all || err != api.OK {
			t.Fatalf("%q becomes %q by %v, but %q, error %d, by %v", s, all, l, once, err, e)
		}
		inverse, _ := textedit.Invert(s, e)
		if back, err := textedit.Apply(once, inverse); back != s || err != api.OK {
			t.Fatalf("%q becomes %q, error %d, by %v and its inverse", s, back, err, e)
		}
	}
}

func TestComposeRefusesWhatDoesNotFit(t *testing.T) { // P3.3
	for _, l := range badLists() {
		if got, err := textedit.Compose("abc", l); got != (api.Edit{}) || err != api.ErrRange {
			t.Errorf("Compose(abc, %v): %v, error %d, want ErrRange", l, got, err)
		}
	}
}
