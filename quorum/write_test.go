package quorum

import (
	"fmt"
	"slices"
	"strings"
	"testing"

	"tabularium/api"
)

// P17.3: ErrState ahead of Begin, and when it is over, whatever else is wrong; nothing is asked of the nodes.
func TestWriteState(t *testing.T) {
	long := strings.Repeat("d", 601)
	w := worldOf(t, at(1, "x"), at(1, "x"), at(1, "x"))
	q := New(w.js, w.m)
	was := w.show()
	for _, data := range []string{"", "x", long} {
		wantWrite(t, "ahead of Begin", q, data, []int{0, 3, 4}, api.ErrState)
	}
	wantState(t, "ahead of Begin", q, 0, 0)
	if w.show() != was {
		t.Errorf("%s, not %s", w.show(), was)
	}
	wantBegun(t, "behind that", q, 2, nil, "x")
	wantWrite(t, "ends it", q, "y", []int{1, 1, 1}, api.ErrLost)
	was = w.show()
	for _, data := range []string{"", "x", long} {
		wantWrite(t, "over", q, data, []int{0, 3, 4}, api.ErrState)
	}
	if w.show() != was {
		t.Errorf("%s, not %s", w.show(), was)
	}
	wantOver(t, "over", w, q)
	wantWrite(t, "no nodes", New(nil, w.m), "x", nil, api.ErrState)
}

// P17.3: data of up to 600 bytes are written as they are; one more is ErrArg, and ends nothing.
func TestWriteData(t *testing.T) {
	w := worldOf(t, blank(3)...)
	q := begun(t, w, 1)
	texts := []string{"", "x", "", "\x00", "\xff\x80", "two words", "世界", strings.Repeat("d", 599), strings.Repeat("d", 600), strings.Repeat("\x00", 600)}
	for i, data := range texts {
		wantWrite(t, "right", q, data, nil, api.OK)
		wantState(t, "right", q, 1, i+1)
		for _, more := range []int{1, 2, 3400, 3401, 100000} {
			was := w.show()
			wantWrite(t, "too long", q, strings.Repeat("d", 600+more), []int{4, 1, 2}, api.ErrArg)
			wantState(t, "too long", q, 1, i+1)
			if w.show() != was {
				t.Errorf("%d bytes more: %s, not %s", more, w.show(), was)
			}
		}
	}
	wantNodes(t, "all", w, at(1, texts...), at(1, texts...), at(1, texts...))
	wantRead(t, "all", q, nil, texts...)
}

// P17.3: with MaxEdits edits the next one is ErrLong, which ends nothing; a text that is too long is told first.
func TestWriteMaxEdits(t *testing.T) {
	data := many(300, 4)
	for _, found := range []int{0, 1, 298, 299, 300} {
		w := worldOf(t, at(1, data[:found]...), has{}, has{})
		q := New(w.js, w.m)
		wantBegun(t, "found", q, 2, nil, data[:found]...)
		for i := found; i < 300; i++ {
			wantWrite(t, "there is room", q, data[i], nil, api.OK)
		}
		was := w.show()
		for range 2 {
			wantState(t, "full", q, 2, 300)
			wantWrite(t, "full", q, "x", []int{4, 4, 4}, api.ErrLong)
			wantWrite(t, "full", q, data[299], nil, api.ErrLong)
			wantWrite(t, "full, and too long", q, strings.Repeat("d", 601), nil, api.ErrArg)
		}
		wantRead(t, "full", q, nil, data...)
		if w.show() != was {
			t.Error("full, and yet it changed")
		}
		wantBegun(t, "the next one", New(w.js, w.m), 3, nil, data...)
	}
}

// P17.3: each edit has the next number, behind those that were found, and goes to each node.
func TestWriteNext(t *testing.T) {
	for found := range 4 {
		for n := 1; n <= 7; n++ {
			data := many(found, 3)
			w := worldOf(t, slices.Repeat([]has{at(1, data...)}, n)...)
			q := New(w.js, w.m)
			wantBegun(t, "found", q, 2, nil, data...)
			spoken := min(n, 5)
			for i := range 3 {
				data = append(data, fmt.Sprint("written ", i))
				wantWrite(t, "written", q, data[found+i], nil, api.OK)
				wantState(t, "written", q, 2, found+i+1)
			}
			want := slices.Repeat([]has{at(1, data[:found]...)}, n)
			for i := range spoken {
				want[i] = at(2, data...)
			}
			wantNodes(t, "written", w, want...)
			wantWrite(t, "late", q, "z", slices.Repeat([]int{4}, n), api.ErrLost)
			var late []api.Message
			for i := range spoken {
				late = append(late, api.Message{To: i, Data: adding(2, found+4, "z")})
			}
			wantMail(t, "late", w, late...)
		}
	}
}

// P17.3: a majority that answers OK, and one less, with and without an ErrFence that is heard: all choices of up to five nodes that take it, are silent, or promised a greater epoch since.
func TestWriteMajorities(t *testing.T) {
	count := map[api.Errno]int{}
	for n := 1; n <= 5; n++ {
		codes := 1
		for range n {
			codes *= 4
		}
		for code := range codes {
			w := worldOf(t, blank(n)...)
			q := begun(t, w, 1)
			var took int
			var fence bool
			var fates []int
			for i := range n {
				switch code >> (2 * i) & 3 {
				case 0:
					fates, took = append(fates, 3*((code+i)%2)), took+1
				case 1:
					fates = append(fates, []int{1, 2, 4}[(code+i)%3])
				case 2:
					told(t, w.js[i], promising(9), api.OK)
					fates, fence = append(fates, 0), true
				case 3: // it would fence, but nobody hears it
					told(t, w.js[i], promising(9), api.OK)
					fates = append(fates, []int{1, 2, 4}[(code+i)%3])
				}
			}
			want := errorOf(took, n, fence)
			count[want]++
			what := fmt.Sprint(n, " nodes, code ", code)
			wantWrite(t, what, q, "x", fates, want)
			if want == api.OK {
				wantState(t, what, q, 1, 1)
			} else {
				wantOver(t, what, w, q)
			}
			if t.Failed() {
				return
			}
		}
	}
	for _, e := range []api.Errno{api.OK, api.ErrFence, api.ErrLost} {
		if count[e] < 100 {
			t.Errorf("too little was tried: %v", count)
		}
	}
}

// P17.3: what else nodes answer is neither OK nor an ErrFence: that they miss an edit, or are dead.
func TestWriteOtherErrors(t *testing.T) {
	w := worldOf(t, blank(3)...)
	q := begun(t, w, 1)
	wantWrite(t, "two have it", q, "x", []int{1}, api.OK)
	wantWrite(t, "the one misses it, two take the next", q, "y", nil, api.OK)
	wantNodes(t, "a gap", w, at(1), at(1, "x", "y"), at(1, "x", "y"))
	wantWrite(t, "the one misses it, one takes the next", q, "z", []int{0, 1}, api.ErrLost)
	wantOver(t, "a gap", w, q)

	w = worldOf(t, blank(3)...)
	q = begun(t, w, 1)
	w.kill(t, 0)
	wantWrite(t, "one is dead", q, "x", nil, api.OK)
	w.kill(t, 2)
	wantWrite(t, "two are dead", q, "y", nil, api.ErrLost)
	wantOver(t, "two are dead", w, q)

	w = worldOf(t, blank(3)...)
	q = begun(t, w, 1)
	w.kill(t, 0)
	told(t, w.js[2], promising(2), api.OK)
	wantWrite(t, "one is dead, one fences", q, "y", nil, api.ErrFence)

	w = worldOf(t, blank(3)...)
	q = begun(t, w, 1)
	told(t, w.js[0], adding(1, 1, "other"), api.OK)
	wantWrite(t, "another one stands there", q, "x", nil, api.OK)
	told(t, w.js[1], adding(1, 2, "other"), api.OK)
	told(t, w.js[2], adding(1, 2, "other"), api.OK)
	wantWrite(t, "another one stands there, twice", q, "y", nil, api.ErrLost)
}

// P17.3: nodes that only promised have another log than that of the epoch: they fence.
func TestWriteNotTaken(t *testing.T) {
	w := worldOf(t, at(1, "x"), at(1, "x"), at(1, "x"))
	q := New(w.js, w.m)
	wantBegun(t, "the third did not take it", q, 2, []int{0, 0, 0, 0, 0, 1}, "x")
	wantWrite(t, "two take it", q, "y", nil, api.OK)
	wantNodes(t, "two take it", w, at(2, "x", "y"), at(2, "x", "y"), at(1, "x").after(2))
	wantWrite(t, "one takes it", q, "z", []int{0, 1, 0}, api.ErrFence)
	wantOver(t, "one takes it", w, q)
}

// P17.3: an edit that no majority took is not written again: who begins next finds it, or does not.
func TestWriteLost(t *testing.T) {
	for what, x := range map[string]struct {
		fates, begin []int
		want         []string
	}{
		"one has it, and is heard":           {[]int{0, 1, 1}, nil, []string{"x", "y"}},
		"one has it, and is not heard":       {[]int{0, 1, 1}, []int{1}, []string{"x"}},
		"all have it, no answer comes":       {[]int{2, 2, 2}, nil, []string{"x", "y"}},
		"nobody has it":                      {[]int{1, 1, 1}, nil, []string{"x"}},
		"nobody has it yet":                  {[]int{4, 4, 4}, nil, []string{"x"}},
		"two have it, one answer comes":      {[]int{0, 2, 1}, []int{1}, []string{"x", "y"}},
		"two have it, and the third is lost": {[]int{2, 1, 2}, []int{0, 0, 1}, []string{"x", "y"}},
	} {
		w := worldOf(t, blank(3)...)
		q := begun(t, w, 1)
		wantWrite(t, what, q, "x", nil, api.OK)
		wantWrite(t, what, q, "y", x.fates, api.ErrLost)
		wantOver(t, what, w, q)
		wantBegun(t, what, New(w.js, w.m), 2, x.begin, x.want...)
	}
}
