package wire

import (
	"math"
	"testing"

	"tabularium/api"
)

const oneNaN = "\x7f\xf8\x00\x00\x00\x00\x00\x01"

// edgeReals: fractions at their edges, beside what is not a number.
func edgeReals() []float64 {
	l := []float64{0, 1, 1.5, 0.1, math.Pi, math.MaxFloat64, math.SmallestNonzeroFloat64, 0x1p-1022, 0x1p-1022 - 0x1p-1074, 1<<53 - 1, 1 << 53, math.Inf(1)}
	for _, f := range l {
		l = append(l, math.Copysign(f, -1))
	}
	return l
}

// notNumbers: bits of what is not a number, but those that Real writes.
func notNumbers() []uint64 {
	l := []uint64{0x7FF8000000000000, 0x7FF8000000000002, 0x7FF8000000000003, 0x7FF0000000000001, 0x7FF4000000000001, 0x7FFFFFFFFFFFFFFF, 0xFFF8000000000000, 0xFFF8000000000001, 0xFFF0000000000001, 0xFFFFFFFFFFFFFFFF}
	for k := range 52 {
		l = append(l, 0x7FF0000000000000|1<<k, 0xFFF0000000000000|1<<k)
	}
	return l
}

// eight bytes, the greatest first.
func eight(z uint64) string {
	var b [8]byte
	for i := 7; i >= 0; i-- {
		b[i] = byte(z)
		z /= 256
	}
	return string(b[:])
}

func refusedReal(t *testing.T, b string) {
	t.Helper()
	f, rest, e := TakeReal(b)
	if math.Float64bits(f) != 0 || rest != "" || e != api.ErrForm {
		t.Errorf("TakeReal(% x) = %v, % x, %d", b, f, rest, e)
	}
}

// TestRealExamples: P1.2, bits as they are laid.
func TestRealExamples(t *testing.T) {
	for _, c := range []struct {
		f    float64
		want string
	}{
		{0, "\x00\x00\x00\x00\x00\x00\x00\x00"},
		{math.Copysign(0, -1), "\x80\x00\x00\x00\x00\x00\x00\x00"},
		{1, "\x3f\xf0\x00\x00\x00\x00\x00\x00"},
		{-2, "\xc0\x00\x00\x00\x00\x00\x00\x00"},
		{math.Pi, "\x40\x09\x21\xfb\x54\x44\x2d\x18"},
		{math.Inf(1), "\x7f\xf0\x00\x00\x00\x00\x00\x00"},
		{math.Inf(-1), "\xff\xf0\x00\x00\x00\x00\x00\x00"},
		{math.MaxFloat64, "\x7f\xef\xff\xff\xff\xff\xff\xff"},
		{math.SmallestNonzeroFloat64, "\x00\x00\x00\x00\x00\x00\x00\x01"},
		{math.NaN(), oneNaN},
	} {
		if got := Real(c.f); got != c.want {
			t.Errorf("Real(%v) = % x, want % x", c.f, got, c.want)
		}
	}
}

// TestRealNotANumber: P1.2, all that is not a number is written alike, and no other bits of it are read.
func TestRealNotANumber(t *testing.T) {
	for _, z := range notNumbers() {
		if got := Real(math.Float64frombits(z)); got != oneNaN {
			t.Errorf("Real of the bits %x = % x", z, got)
		}
		for _, tail := range tails {
			refusedReal(t, eight(z)+tail)
		}
	}
	for _, tail := range tails {
		if f, rest, e := TakeReal(oneNaN + tail); !math.IsNaN(f) || rest != tail || e != api.OK {
			t.Errorf("TakeReal(NaN + % x) = %v, % x, %d", tail, f, rest, e)
		}
	}
}

// TestRealAgain: P1.2 and P1.4, what was written is read again bit by bit (-0 stays -0), whatever stands behind.
func TestRealAgain(t *testing.T) {
	for _, f := range edgeReals() {
		for _, tail := range tails {
			g, rest, e := TakeReal(Real(f) + tail)
			if math.Float64bits(g) != math.Float64bits(f) || rest != tail || e != api.OK {
				t.Errorf("TakeReal(Real(%v) + % x) = %v, % x, %d", f, tail, g, rest, e)
			}
		}
	}
}

// TestRealBits: P1.2, each bit stands at its own place.
func TestRealBits(t *testing.T) {
	for k := range 64 {
		z := uint64(1) << k
		if got, want := Real(math.Float64frombits(z)), eight(z); got != want {
			t.Errorf("bit %d: % x, want % x", k, got, want)
		}
		if f, _, e := TakeReal(eight(z)); math.Float64bits(f) != z || e != api.OK {
			t.Errorf("bit %d is read as %x, %d", k, math.Float64bits(f), e)
		}
	}
}

// TestRealCutOff: P1.2, less than eight bytes are refused.
func TestRealCutOff(t *testing.T) {
	for _, f := range append(edgeReals(), math.NaN()) {
		for i := range 8 {
			refusedReal(t, Real(f)[:i])
		}
	}
}

// TestRealsUnlike: P1.4, unlike fractions are written unlike.
func TestRealsUnlike(t *testing.T) {
	l := append(edgeReals(), math.NaN())
	for i, f := range l {
		for _, g := range l[:i] {
			if Real(f) == Real(g) {
				t.Errorf("%v and %v are written alike", f, g)
			}
		}
	}
}
