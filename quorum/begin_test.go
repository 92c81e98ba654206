package quorum

import (
	"fmt"
	"math"
	"slices"
	"testing"

	"tabularium/api"
)

// P17.2: an epoch is 1 to MaxNumber; with another one nothing is asked, and Begin can be asked again.
func TestBeginEpoch(t *testing.T) {
	for _, epoch := range []int{1, 2, 1 << 32, greatest - 1, greatest} {
		w := worldOf(t, blank(3)...)
		q := New(w.js, w.m)
		wantBegun(t, "right", q, epoch, nil)
		wantNodes(t, "right", w, slices.Repeat([]has{at(epoch)}, 3)...)
		wantWrite(t, "right", q, "x", nil, api.OK)
	}
	for _, epoch := range []int{0, -1, greatest + 1, math.MinInt, math.MaxInt, -greatest} {
		for _, fates := range [][]int{nil, {4, 4, 4}, {1, 1, 1}} {
			w := worldOf(t, blank(3)...)
			q := New(w.js, w.m)
			wantError(t, "wrong", q, epoch, fates, api.ErrArg)
			wantNodes(t, "wrong", w, blank(3)...)
			wantMail(t, "wrong", w)
			wantState(t, "wrong", q, 0, 0)
			wantBegun(t, "behind a wrong one", q, 1, nil)
		}
	}
	wantError(t, "wrong, and no nodes", New(nil, nil), 0, nil, api.ErrArg)
}

// P17.2: Begin a second time is ErrState, whatever the epoch, and whether the first one went well; but for one whose epoch was none.
func TestBeginTwice(t *testing.T) {
	w := worldOf(t, at(3, "x"), at(3, "x"), at(3, "x"))
	firsts := map[string]struct {
		epoch, many int // as they are behind it
		fates       []int
		asked       int
		want        api.Errno
	}{
		"well":                     {4, 1, nil, 4, api.OK},
		"no promises":              {0, 0, []int{1, 1, 1}, 5, api.ErrLost},
		"promises, none takes it":  {0, 0, []int{0, 0, 0, 1, 1, 1}, 6, api.ErrLost},
		"an epoch that has passed": {0, 0, nil, 2, api.ErrFence},
	}
	for _, what := range []string{"well", "no promises", "promises, none takes it", "an epoch that has passed"} {
		x := firsts[what]
		q := New(w.js, w.m)
		if _, e := q.Begin(x.asked, x.fates); e != x.want {
			t.Errorf("%s: error %d, not %d", what, e, x.want)
		}
		was := w.show()
		for _, epoch := range []int{x.asked, 100, 1, 0, -1, greatest + 1} {
			wantError(t, what, q, epoch, []int{0, 4}, api.ErrState)
		}
		wantState(t, what, q, x.epoch, x.many)
		if w.show() != was {
			t.Errorf("%s: the second one changed %s to %s", what, was, w.show())
		}
		if x.want != api.OK {
			wantOver(t, what, w, q)
		}
	}
}

// P17.2: without nodes there is no majority.
func TestBeginNoNodes(t *testing.T) {
	for _, epoch := range []int{1, greatest} {
		w := worldOf(t)
		q := New(w.js, w.m)
		wantError(t, "no nodes", q, epoch, nil, api.ErrLost)
		wantOver(t, "no nodes", w, q)
	}
}

// P17.2: at most MaxJournals nodes are spoken to; the others are neither asked nor counted.
func TestBeginLeavesOut(t *testing.T) {
	for n := 1; n <= 8; n++ {
		w := worldOf(t, blank(n)...)
		q := New(w.js, w.m)
		wantBegun(t, "all", q, 1, nil)
		wantWrite(t, "all", q, "x", nil, api.OK)
		want := blank(n)
		for i := range min(n, 5) {
			want[i] = at(1, "x")
		}
		wantNodes(t, fmt.Sprint(n, " nodes"), w, want...)
	}
	for n := 5; n <= 12; n++ {
		w := worldOf(t, blank(n)...)
		wantBegun(t, "three of five", New(w.js, w.m), 1, []int{1, 1, 0, 0, 0, 1, 1, 0, 0, 0})
		wantError(t, "two of five", New(w.js, w.m), 2, []int{1, 1, 1, 0, 0, 0, 0, 0, 0, 0}, api.ErrLost)
	}
}

// kind is how a node takes part in Begin: whether it promised a greater epoch, and whether its answers are heard.
type kind struct{ higher, promise, accept bool }

// kindsOf: n nodes, of the kinds that the digits of code tell.
func kindsOf(n, code int) []kind {
	var l []kind
	for range n {
		l = append(l, kind{code&1 > 0, code&2 > 0, code&4 > 0})
		code >>= 3
	}
	return l
}

// errorOf: what becomes of a majority, if so many answered OK, and fence says whether one answered ErrFence.
func errorOf(ok, n int, fence bool) api.Errno {
	switch {
	case 2*ok > n:
		return api.OK
	case fence:
		return api.ErrFence
	}
	return api.ErrLost
}

// errorOfKinds: what Begin answers, and whether it came to what the nodes take.
func errorOfKinds(l []kind) (e api.Errno, second bool) {
	var promised, took int
	var fence, later bool
	for _, k := range l {
		switch {
		case k.promise && k.higher:
			fence = true
		case k.promise:
			promised++
		}
		switch {
		case k.accept && k.higher:
			later = true
		case k.accept:
			took++
		}
	}
	if e := errorOf(promised, len(l), fence); e != api.OK {
		return e, false
	}
	return errorOf(took, len(l), later), true
}

// P17.2: a majority of promises, and one less, of what is taken, and one less, with and without an ErrFence that is heard there: all choices of up to four nodes.
func TestBeginMajorities(t *testing.T) {
	count := map[string]int{}
	for n := range 5 {
		for code := range 1 << (3 * n) {
			l := kindsOf(n, code)
			all, fates := make([]has, n), make([]int, 2*n)
			for i, k := range l {
				all[i] = at(3, "x")
				if k.higher {
					all[i].promised = 9
				}
				fates[i], fates[n+i] = []int{1, 2, 4}[(code+i)%3], []int{2, 4, 1}[(code+i)%3]
				if k.promise {
					fates[i] = 3 * ((code + i) % 2)
				}
				if k.accept {
					fates[n+i] = 3 * ((code + i) % 2)
				}
			}
			w := worldOf(t, all...)
			q := New(w.js, w.m)
			want, second := errorOfKinds(l)
			what := fmt.Sprint(l)
			if want == api.OK {
				wantBegun(t, what, q, 5, fates, "x")
			} else {
				wantError(t, what, q, 5, fates, want)
				wantOver(t, what, w, q)
			}
			count[fmt.Sprint(want, second)]++
			if t.Failed() {
				return
			}
		}
	}
	for _, what := range []string{"0 true", "10 true", "12 true", "10 false", "12 false"} {
		if count[what] < 50 {
			t.Errorf("too little was tried: %v", count)
		}
	}
}

// P17.2: of five nodes three are a majority, two are not, whichever they are.
func TestBeginFive(t *testing.T) {
	for code := range 1 << 5 {
		for _, silent := range []int{1, 2, 4} {
			w := worldOf(t, blank(5)...)
			var promises, takes []int
			heard := 0
			for i := range 5 {
				f := silent
				if code>>i&1 > 0 {
					f, heard = 0, heard+1
				}
				promises, takes = append(promises, f), append(takes, 0)
			}
			want := errorOf(heard, 5, false)
			if _, e := New(w.js, w.m).Begin(1, append(slices.Clone(promises), takes...)); e != want {
				t.Errorf("promises %v: error %d, not %d", promises, e, want)
			}
			if _, e := New(w.js, w.m).Begin(2, append(slices.Clone(takes), promises...)); e != want {
				t.Errorf("taken %v: error %d, not %d", promises, e, want)
			}
		}
	}
}

// P17.2: an ErrFence counts where it is heard: that of a promise not for what is taken, nor one whose answer is lost.
func TestBeginFence(t *testing.T) {
	for what, x := range map[string]struct {
		fates []int
		want  api.Errno
	}{
		"all heard":                          {nil, api.OK},
		"one promise, and a fence":           {[]int{0, 1, 0}, api.ErrFence},
		"one promise, and a fence, twice":    {[]int{0, 1, 3}, api.ErrFence},
		"one promise, the fence is lost":     {[]int{0, 1, 1}, api.ErrLost},
		"one promise, the fence not heard":   {[]int{0, 1, 2}, api.ErrLost},
		"one promise, the fence comes late":  {[]int{0, 1, 4}, api.ErrLost},
		"no promise, and a fence":            {[]int{1, 1, 0}, api.ErrFence},
		"one takes it, and a fence":          {[]int{0, 0, 1, 0, 1, 0}, api.ErrFence},
		"one takes it, a fence ahead of it":  {[]int{0, 0, 0, 0, 1, 1}, api.ErrLost},
		"one takes it, a fence not heard":    {[]int{0, 0, 0, 0, 1, 2}, api.ErrLost},
		"nobody takes it, and a fence":       {[]int{0, 0, 0, 1, 1, 0}, api.ErrFence},
		"two take it, and no fence is heard": {[]int{0, 0, 1, 0, 0, 1}, api.OK},
	} {
		w := worldOf(t, at(3, "x"), at(3, "x"), at(3, "x").after(9))
		if _, e := New(w.js, w.m).Begin(5, x.fates); e != x.want {
			t.Errorf("%s: error %d, not %d", what, e, x.want)
		}
	}
	for what, all := range map[string][]has{
		"the same epoch":           {at(5), at(5), {}},
		"the same epoch, promised": {at(3).after(5), at(3).after(5), {}},
		"greater by one":           {at(3).after(6), at(6), {}},
	} {
		w := worldOf(t, all...)
		wantError(t, what, New(w.js, w.m), 5, nil, api.ErrFence)
	}
}

// P17.2: other errors that nodes answer are no ErrFence.
func TestBeginDead(t *testing.T) {
	w := worldOf(t, blank(3)...)
	w.kill(t, 1)
	wantBegun(t, "one is dead", New(w.js, w.m), 1, nil)
	w.kill(t, 2)
	wantError(t, "two are dead", New(w.js, w.m), 2, nil, api.ErrLost)
	wantError(t, "two are dead, one fences", New(w.js, w.m), 1, nil, api.ErrFence)
	w = worldOf(t, blank(3)...)
	for _, d := range w.ds[:2] {
		d.Fuse(4) // a promise is three calls, and the next one is the log's
	}
	q := New(w.js, w.m)
	wantError(t, "two die when they take it", q, 1, nil, api.ErrLost)
	wantOver(t, "two die when they take it", w, q)
	if !w.js[0].Dead() || !w.js[1].Dead() || w.js[2].Dead() {
		t.Error("other nodes died")
	}
}

// bests: what nodes have, the fates, and the data that Begin(9) finds.
func bests() map[string]struct {
	all   []has
	fates []int
	want  []string
} {
	type x = struct {
		all   []has
		fates []int
		want  []string
	}
	return map[string]x{
		"none has anything":                  {blank(3), nil, nil},
		"one of one":                         {[]has{at(2, "a")}, nil, []string{"a"}},
		"of equal ones the first":            {[]has{at(2, "a"), at(2, "b"), at(2, "c")}, nil, []string{"a"}},
		"of equal ones the first heard":      {[]has{at(2, "a"), at(2, "b"), at(2, "c")}, []int{2}, []string{"b"}},
		"the longest of one epoch":           {[]has{at(2, "a"), at(2, "a", "b"), at(2)}, nil, []string{"a", "b"}},
		"the longest, the last one":          {[]has{at(2), at(2, "a"), at(2, "a", "b", "c")}, nil, []string{"a", "b", "c"}},
		"a greater epoch ahead of longer":    {[]has{at(2, "a", "b", "c"), at(3, "d"), at(2, "a", "b")}, nil, []string{"d"}},
		"a greater epoch without entries":    {[]has{at(2, "a", "b", "c"), at(2, "a", "b"), at(3)}, nil, nil},
		"the epoch of the log, not promised": {[]has{at(2, "a").after(8), at(3, "b"), at(1, "c")}, nil, []string{"b"}},
		"the best one is lost":               {[]has{at(4, "a", "b"), at(3, "c"), at(2, "d")}, []int{1}, []string{"c"}},
		"the best one is not heard":          {[]has{at(4, "a", "b"), at(3, "c"), at(2, "d")}, []int{2}, []string{"c"}},
		"the best one comes late":            {[]has{at(4, "a", "b"), at(3, "c"), at(2, "d")}, []int{4}, []string{"c"}},
		"the best one twice":                 {[]has{at(4, "a", "b"), at(3, "c"), at(2, "d")}, []int{3}, []string{"a", "b"}},
		"all twice":                          {[]has{at(1, "a"), at(3, "c", "d"), at(2, "d")}, []int{3, 3, 3, 3, 3, 3}, []string{"c", "d"}},
		"the best one fences":                {[]has{at(4, "a", "b").after(10), at(3, "c"), at(2, "d")}, nil, []string{"c"}},
		"five, the first two lost":           {[]has{at(4, "a"), at(4, "b"), at(2, "c"), at(2, "d", "e"), at(2, "f", "g")}, []int{1, 1}, []string{"d", "e"}},
		"two of two":                         {[]has{at(2, "a"), at(2, "a", "b")}, nil, []string{"a", "b"}},
		"four, one lost":                     {[]has{at(2, "a"), at(2, "b"), at(1, "c", "d"), at(2, "e", "f")}, []int{0, 0, 0, 1}, []string{"a"}},
		"empty data":                         {[]has{at(2, "", "x", ""), at(2, ""), at(2)}, nil, []string{"", "x", ""}},
		"the sixth is left out":              {[]has{at(1, "a"), at(1), at(1), at(1), at(1), at(8, "b", "c")}, nil, []string{"a"}},
	}
}

// P17.2: which log is taken, and that all nodes that hear it have it with the new epoch.
func TestBeginBest(t *testing.T) {
	for what, x := range bests() {
		w := worldOf(t, x.all...)
		wantBegun(t, what, New(w.js, w.m), 9, x.fates, x.want...)
		var want []has
		for i, was := range x.all {
			if i < 5 && was.promised <= 9 {
				was = at(9, x.want...)
			}
			want = append(want, was)
		}
		wantNodes(t, what, w, want...)
	}
}

// P17.2: the log is handed to each node, also to those that did not promise; the fates go on behind those of the promises.
func TestBeginHandsOn(t *testing.T) {
	all := []has{at(3, "x", "y"), at(2, "z"), {}}
	for what, x := range map[string]struct {
		fates []int
		want  []has
	}{
		"all heard":                            {nil, []has{at(7, "x", "y"), at(7, "x", "y"), at(7, "x", "y")}},
		"the third promised nothing":           {[]int{0, 0, 1}, []has{at(7, "x", "y"), at(7, "x", "y"), at(7, "x", "y")}},
		"the third is not heard":               {[]int{0, 0, 2}, []has{at(7, "x", "y"), at(7, "x", "y"), at(7, "x", "y")}},
		"the first does not get it":            {[]int{0, 0, 0, 1}, []has{at(3, "x", "y").after(7), at(7, "x", "y"), at(7, "x", "y")}},
		"the second does not get it":           {[]int{0, 0, 0, 0, 1}, []has{at(7, "x", "y"), at(2, "z").after(7), at(7, "x", "y")}},
		"the third does not get it":            {[]int{0, 0, 0, 0, 0, 1}, []has{at(7, "x", "y"), at(7, "x", "y"), {promised: 7}}},
		"the third gets nothing":               {[]int{0, 0, 1, 0, 0, 1}, []has{at(7, "x", "y"), at(7, "x", "y"), {}}},
		"the third gets it late":               {[]int{0, 0, 1, 0, 0, 4}, []has{at(7, "x", "y"), at(7, "x", "y"), {}}},
		"the third gets it and is not heard":   {[]int{0, 0, 0, 0, 0, 2}, []has{at(7, "x", "y"), at(7, "x", "y"), at(7, "x", "y")}},
		"fates behind all requests":            {[]int{0, 0, 0, 0, 0, 0, 1, 1, 1, 4}, []has{at(7, "x", "y"), at(7, "x", "y"), at(7, "x", "y")}},
		"the log of the first is heard by two": {[]int{0, 1, 0, 1, 0, 0}, []has{at(3, "x", "y").after(7), at(7, "x", "y"), at(7, "x", "y")}},
	} {
		w := worldOf(t, all...)
		wantBegun(t, what, New(w.js, w.m), 7, x.fates, "x", "y")
		wantNodes(t, what, w, x.want...)
	}
	w := worldOf(t, all...)
	wantBegun(t, "the first one is lost", New(w.js, w.m), 7, []int{1}, "z")
	wantNodes(t, "the first one is lost", w, at(7, "z"), at(7, "z"), at(7, "z"))
}

// P17.2: what an error leaves behind: nodes that promised keep that, and without a majority of promises nothing is handed to them.
func TestBeginLeaves(t *testing.T) {
	w := worldOf(t, at(3, "x"), at(3), has{})
	wantError(t, "one promise", New(w.js, w.m), 7, []int{0, 1, 2, 0, 0, 0}, api.ErrLost)
	wantNodes(t, "one promise", w, at(3, "x").after(7), at(3), has{promised: 7})
	wantError(t, "one takes it", New(w.js, w.m), 8, []int{0, 0, 0, 0, 1, 1}, api.ErrLost)
	wantNodes(t, "one takes it", w, at(8, "x"), at(3).after(8), has{promised: 8})
	wantError(t, "a fence", New(w.js, w.m), 8, []int{}, api.ErrFence)
	wantNodes(t, "a fence", w, at(8, "x"), at(3).after(8), has{promised: 8})
	wantBegun(t, "the next one", New(w.js, w.m), 9, nil, "x")
}

// P17.2: a log of MaxEdits entries of 600 bytes is found, and taken with the new epoch.
func TestBeginLongest(t *testing.T) {
	data := many(300, 600)
	w := worldOf(t, at(2, data...), at(2, data[:299]...), has{})
	q := New(w.js, w.m)
	wantBegun(t, "the longest", q, 3, nil, data...)
	wantNodes(t, "the longest", w, at(3, data...), at(3, data...), at(3, data...))
	wantWrite(t, "the longest", q, "x", nil, api.ErrLong)
	wantRead(t, "the longest", q, nil, data...)
	w = worldOf(t, at(2, data...), has{}, has{})
	wantBegun(t, "one late: the mail does not take it", New(w.js, w.m), 3, []int{0, 0, 0, 0, 0, 4}, data...)
	wantMail(t, "one late", w)
	wantNodes(t, "one late", w, at(3, data...), at(3, data...), has{promised: 3})
	wantError(t, "two late", New(w.js, w.m), 4, []int{0, 0, 0, 0, 4, 4}, api.ErrLost)
}

// P17.2: a node that stands at several places of js promises but once, and takes a log as often as it is asked.
func TestBeginSameNode(t *testing.T) {
	w := worldOf(t, at(2, "x"), at(2, "x"), at(2, "x"))
	w.js[1] = w.js[0]
	wantBegun(t, "two answer OK", New(w.js, w.m), 3, nil, "x")
	w.js[2] = w.js[0]
	wantError(t, "one answers OK", New(w.js, w.m), 4, nil, api.ErrFence)
	wantError(t, "the same, the others lost", New(w.js, w.m), 5, []int{0, 1, 1}, api.ErrLost)
	wantNodes(t, "the same", w, at(3, "x").after(5), at(3, "x").after(5), at(3, "x").after(5))
}
