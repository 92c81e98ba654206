package edit

import (
	"encoding/binary"
	"math"
	"math/rand/v2"
	"slices"
	"testing"

	"tabularium/api"
)

// right: by the chapter's words, sentence by sentence, in numbers written out.
func right(e api.Edit) bool {
	number := func(n int) bool { return n >= 0 && n <= greatest }
	if e.Kind < 1 || e.Kind > 10 || len(e.Path) > 120 || e.Client < 0 || e.Client > 3 || !number(e.Call) {
		return false
	}
	if len(e.To) > 120 || e.To != "" && e.Kind != 4 {
		return false
	}
	if e.N != 0 && !(e.Kind >= 7 && e.Kind <= 9 && number(e.N)) && !(e.Kind == 7 && e.N == -1) {
		return false
	}
	if len(e.Lengths) > 0 && e.Kind != 5 && e.Kind != 6 || len(e.Lengths) > 8 {
		return false
	}
	return !slices.ContainsFunc(e.Lengths, func(n int) bool { return !number(n) })
}

// reader reads more forms of a number than the chapter has, and what is missing as 0: laid tells then whether b was of the one form.
type reader struct{ left []byte }

func (r *reader) number() int {
	n, size := binary.Varint(r.left)
	if size <= 0 {
		return 0
	}
	r.left = r.left[size:]
	return int(n)
}

func (r *reader) text() string {
	n := max(0, min(r.number(), len(r.left)))
	s := string(r.left[:n])
	r.left = r.left[n:]
	return s
}

// read: the edit whose bytes are b, if there is one.
func read(b string) (api.Edit, bool) {
	r := &reader{[]byte(b)}
	e := api.Edit{Kind: r.number(), Path: r.text(), To: r.text(), Client: r.number(), Call: r.number(), N: r.number()}
	for range min(r.number(), 10) {
		e.Lengths = append(e.Lengths, r.number())
	}
	return e, right(e) && laid(e) == b
}

// hold asks Decode of b, and of an edit that it tells Right and Encode.
func hold(t *testing.T, b string) (taken bool) {
	t.Helper()
	want, ok := read(b)
	if !ok {
		refused(t, b)
		return false
	}
	wantDecode(t, b, want)
	wantEncode(t, want, b)
	if !Right(want) {
		t.Errorf("%#v is not right", want)
	}
	return true
}

// holdEdit asks all calls of e, right or not.
func holdEdit(t *testing.T, e api.Edit) (isRight bool) {
	t.Helper()
	b, isRight := laid(e), right(e)
	if Right(e) != isRight {
		t.Errorf("Right(%#v) is %v", e, !isRight)
	}
	if isRight {
		wantEncode(t, e, b)
		wantDecode(t, b, e)
		return true
	}
	if got, bad := Encode(e); got != "" || bad != api.ErrArg {
		t.Errorf("Encode(%#v) = % x, %d, not ErrArg", e, got, bad)
	}
	refused(t, b)
	return false
}

// P10.1: all choices of what stands at an edge, or beyond it, for each field.
func TestAgainstModel(t *testing.T) {
	texts := []string{"", "/", long(120), long(121)}
	clients := []int{-1, 0, 3, 4}
	calls := []int{-1, 0, 64, greatest, greatest + 1}
	ns := []int{-2, -1, 0, 1, greatest, greatest + 1}
	lengths := [][]int{nil, {}, {0}, {-1}, {greatest}, {greatest + 1}, {3, math.MinInt}, make([]int, 8), make([]int, 9)}
	var sound, unsound int
	for kind := -1; kind <= 12; kind++ {
		for _, path := range texts {
			for _, to := range texts {
				for _, client := range clients {
					for _, call := range calls {
						for _, n := range ns {
							for _, l := range lengths {
								if holdEdit(t, api.Edit{Kind: kind, Path: path, To: to, Client: client, Call: call, N: n, Lengths: l}) {
									sound++
								} else {
									unsound++
								}
							}
						}
					}
				}
			}
		}
		if t.Failed() {
			return
		}
	}
	if sound != 792 || unsound < 10000 { // as many as a count by hand of the choices tells
		t.Errorf("%d right, %d not", sound, unsound)
	}
}

// P10.1: each byte of what was written as any other one, left out, or with another one ahead of it.
func TestDecodeTurnedBytes(t *testing.T) {
	var taken, not int
	count := func(b []byte) {
		t.Helper()
		if hold(t, string(b)) {
			taken++
		} else {
			not++
		}
	}
	for whole := range known() {
		b := []byte(whole)
		for i := range b {
			count(slices.Delete(slices.Clone(b), i, i+1))
			for c := range 256 {
				other := slices.Clone(b)
				other[i] = byte(c)
				count(other)
				count(slices.Insert(slices.Clone(b), i, byte(c)))
			}
		}
	}
	if taken < 1000 || not < 10000 {
		t.Errorf("too little was tried: %d taken, %d not", taken, not)
	}
}

// anyEdit: one of any numbers, mostly near its edges.
func anyEdit(r *rand.Rand) api.Edit {
	pick := func(l ...int) int { return l[r.IntN(len(l))] }
	text := func() string {
		b := make([]byte, pick(0, 0, 0, 1, 2, 63, 64, 120, 120, r.IntN(130)))
		for i := range b {
			b[i] = byte(r.Uint32())
		}
		return string(b)
	}
	number := func() int {
		return pick(0, 0, 0, 1, 64, r.IntN(1000), r.IntN(greatest), greatest, pick(1, 1, 1, -1, greatest+1, -2, int(r.Uint64())))
	}
	e := api.Edit{Kind: 1 + r.IntN(10), Path: text(), Client: r.IntN(4), Call: number()}
	if e.Kind == api.Rename || r.IntN(30) == 0 {
		e.To = text()
	}
	if e.Kind >= api.SetQuota && e.Kind <= api.Bump || r.IntN(30) == 0 {
		e.N = pick(-1, number(), number())
	}
	if e.Kind == api.AddBlock || e.Kind == api.Complete || r.IntN(30) == 0 {
		for range r.IntN(10) {
			e.Lengths = append(e.Lengths, number())
		}
	}
	if r.IntN(20) == 0 {
		e.Kind = pick(0, -1, 11, 12)
	}
	if r.IntN(20) == 0 {
		e.Client = pick(-1, 4, 1<<32)
	}
	return e
}

// P10.1: many edits, right and not.
func TestManyEdits(t *testing.T) {
	r := rand.New(rand.NewPCG(10, 10))
	var sound, unsound int
	for range 50000 {
		if holdEdit(t, anyEdit(r)) {
			sound++
		} else {
			unsound++
		}
		if t.Failed() {
			return
		}
	}
	if sound < 10000 || unsound < 5000 {
		t.Errorf("too little was tried: %d right, %d not", sound, unsound)
	}
}

func FuzzDecode(f *testing.F) {
	for b := range known() {
		f.Add(b)
	}
	for _, e := range wrongs() {
		if b := laid(e); len(b) < 500 {
			f.Add(b)
		}
	}
	f.Fuzz(func(t *testing.T, b string) {
		hold(t, b)
	})
}
