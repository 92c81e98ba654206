package quorum

import (
	"fmt"
	"slices"
	"testing"

	"tabularium/api"
)

// P17.4: nodes, the fates, and what is read: the first entries that a majority of all nodes has.
func TestRead(t *testing.T) {
	for what, x := range map[string]struct {
		all   []has
		fates []int
		want  []string
	}{
		"nothing there":                         {blank(3), nil, nil},
		"one node":                              {[]has{at(2, "a", "b")}, nil, []string{"a", "b"}},
		"one node, which promised more":         {[]has{at(2, "a", "b").after(9)}, nil, []string{"a", "b"}},
		"two nodes":                             {[]has{at(2, "a", "b"), at(2, "a")}, nil, []string{"a"}},
		"three alike":                           {[]has{at(2, "a"), at(2, "a"), at(2, "a")}, nil, []string{"a"}},
		"one is behind":                         {[]has{at(2, "a", "b"), at(2, "a", "b"), at(2, "a")}, nil, []string{"a", "b"}},
		"one is ahead":                          {[]has{at(2, "a"), at(2, "a", "b"), at(2, "a")}, nil, []string{"a"}},
		"one is behind, and another lost":       {[]has{at(2, "a", "b"), at(2, "a", "b"), at(2, "a")}, []int{1}, []string{"a"}},
		"one is behind, and lost":               {[]has{at(2, "a", "b"), at(2, "a", "b"), at(2, "a")}, []int{0, 0, 1}, []string{"a", "b"}},
		"each ahead of another":                 {[]has{at(2, "a", "b", "c"), at(2, "a"), at(2, "a", "b")}, nil, []string{"a", "b"}},
		"two epochs":                            {[]has{at(2, "a", "b"), at(3, "c"), at(2, "a", "b", "d")}, nil, []string{"a", "b"}},
		"the greater of two epochs":             {[]has{at(2, "a", "b"), at(3), at(3), at(2, "a"), at(3)}, nil, nil},
		"three epochs":                          {[]has{at(2, "a"), at(3, "a"), at(4, "a")}, nil, nil},
		"none of the epochs heard":              {[]has{at(2, "a"), at(3, "a"), at(2, "a")}, []int{0, 0, 1}, nil},
		"the first that has it":                 {[]has{at(2), at(2, "a"), at(2, "b")}, nil, []string{"a"}},
		"the first one of those":                {[]has{at(2, "c"), at(2, "b"), at(2, "a")}, nil, []string{"c"}},
		"the first one heard":                   {[]has{at(2, "c"), at(2, "b"), at(2, "a")}, []int{4}, []string{"b"}},
		"what is promised counts for nothing":   {[]has{at(2, "a").after(5), at(2, "a").after(7), {promised: 9}}, nil, []string{"a"}},
		"of four nodes three":                   {[]has{at(2, "a", "b"), at(2, "a", "b"), at(2, "a"), at(2)}, nil, []string{"a"}},
		"of five nodes three":                   {[]has{at(2, "a", "b"), at(2, "a", "b"), at(2, "a"), at(2), at(2, "a")}, nil, []string{"a"}},
		"of five nodes three are heard":         {[]has{at(2, "a", "b"), at(2, "a", "b"), at(2, "a"), at(2), at(2, "a")}, []int{1, 1}, nil},
		"of five nodes four are heard":          {[]has{at(2, "a", "b"), at(2, "a", "b"), at(2, "a"), at(2), at(2, "a")}, []int{1}, []string{"a"}},
		"a majority of all, not of those heard": {[]has{at(2, "a"), at(2, "a"), at(3), at(3), at(2)}, []int{0, 0, 0, 1}, nil},
		"those behind MaxJournals":              {[]has{at(2, "a"), at(2, "a"), at(2), at(2), at(2), at(2, "a"), at(2, "a")}, nil, nil},
	} {
		w := worldOf(t, x.all...)
		q := New(w.js, w.m)
		was := w.show()
		wantRead(t, what, q, x.fates, x.want...)
		wantState(t, what, q, 0, 0)
		if w.show() != was {
			t.Errorf("%s: Read changed %s to %s", what, was, w.show())
		}
	}
}

// P17.4: with fewer nodes heard than a majority nothing can be read: all choices of nodes that are heard, silent or dead.
func TestReadMajorities(t *testing.T) {
	for n := range 6 {
		codes := 1
		for range n {
			codes *= 3
		}
		for code := range codes {
			w := worldOf(t, slices.Repeat([]has{at(1, "x")}, n)...)
			var fates []int
			heard := 0
			for i, rest := 0, code; i < n; i, rest = i+1, rest/3 {
				switch rest % 3 {
				case 0:
					fates, heard = append(fates, 3*((code+i)%2)), heard+1
				case 1:
					fates = append(fates, []int{1, 2, 4}[(code+i)%3])
				case 2:
					w.kill(t, i)
					fates = append(fates, 3*((code+i)%2))
				}
			}
			what := fmt.Sprint(n, " nodes, code ", code)
			if 2*heard > n {
				wantRead(t, what, New(w.js, w.m), fates, "x")
			} else {
				wantNoRead(t, what, New(w.js, w.m), fates)
			}
			wantMail(t, what, w)
		}
	}
	wantNoRead(t, "nil", New(nil, nil), nil)
	wantNoRead(t, "nil", New(nil, nil), []int{0, 0, 0})
}

// P17.4: Read at any time: ahead of Begin, behind it, behind each write, and when it is over; it ends nothing.
func TestReadAnyTime(t *testing.T) {
	w := worldOf(t, at(1, "x"), at(1, "x"), at(1, "x", "y"))
	q := New(w.js, w.m)
	wantRead(t, "ahead of Begin", q, nil, "x")
	wantNoRead(t, "ahead of Begin", q, []int{1, 2})
	wantBegun(t, "begun", q, 2, nil, "x", "y")
	wantRead(t, "begun", q, nil, "x", "y")
	wantWrite(t, "z", q, "z", []int{1}, api.OK)
	wantRead(t, "written", q, nil, "x", "y", "z")
	wantRead(t, "written, and not heard", q, []int{0, 0, 1}, "x", "y")
	wantNoRead(t, "nobody", q, []int{4, 4, 4})
	wantState(t, "written", q, 2, 3)
	wantWrite(t, "u", q, "u", []int{1, 0, 1}, api.ErrLost)
	wantRead(t, "over", q, nil, "x", "y", "z")
	wantNoRead(t, "over", q, []int{0, 4, 4})
	wantOver(t, "over", w, q)

	q = New(w.js, w.m)
	wantError(t, "over at once", q, 2, nil, api.ErrFence)
	wantRead(t, "over at once", q, nil, "x", "y", "z")
}

// P17.4: what others wrote is read, too.
func TestReadOthers(t *testing.T) {
	w := worldOf(t, blank(3)...)
	p, q := begun(t, w, 1), New(w.js, w.m)
	wantWrite(t, "x", p, "x", nil, api.OK)
	wantRead(t, "one that has not begun", q, nil, "x")
	wantBegun(t, "begun", q, 2, nil, "x")
	wantWrite(t, "y", q, "y", nil, api.OK)
	wantRead(t, "the one that is fenced", p, nil, "x", "y")
	wantState(t, "it does not know yet", p, 1, 1)
}

// P17.4: a log of MaxEdits entries of 600 bytes is read.
func TestReadLongest(t *testing.T) {
	data := many(300, 600)
	w := worldOf(t, at(1, data...), at(1, data[:299]...), at(1, data...))
	wantRead(t, "all", New(w.js, w.m), nil, data...)
	wantRead(t, "all but the last", New(w.js, w.m), []int{1}, data[:299]...)
}
