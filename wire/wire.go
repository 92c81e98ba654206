// Package wire is layer 1: numbers, fractions and texts as bytes. See shared/doc/01-wire.md.
package wire

import (
	"math"

	"tabularium/api"
)

const (
	maxTexts   = 1000 // of one list
	numBytes   = 10   // 64 bits, seven a byte
	realBytes  = 8
	moreFollow = 0x80
	// The one form of all that is not a number: bits that differ would else be told from each other by whoever reads them.
	notANumber = 0x7FF8000000000001
)

// Num: the bytes of n, no more than needed.
func Num(n int) string {
	z := fold(n)
	out := make([]byte, 0, numBytes)
	for z >= moreFollow {
		out = append(out, byte(z)|moreFollow)
		z >>= 7
	}
	return string(append(out, byte(z)))
}

// TakeNum: the number at the beginning of b, and what stands behind it.
func TakeNum(b string) (n int, rest string, e api.Errno) {
	var z uint64
	for i := 0; i < len(b) && i < numBytes; i++ {
		c := b[i]
		if i == numBytes-1 && c > 1 {
			// Only one of the 64 bits is left for the last byte.
			return 0, "", api.ErrForm
		}
		z |= uint64(c&^moreFollow) << (7 * i)
		if c&moreFollow != 0 {
			continue
		}
		if c == 0 && i > 0 {
			// The byte ahead could have been the last: not what Num writes.
			return 0, "", api.ErrForm
		}
		return unfold(z), b[i+1:], api.OK
	}
	return 0, "", api.ErrForm
}

// fold lays numbers of both signs side by side (0, -1, 1, -2 ..), so that those near 0 have few bytes.
func fold(n int) uint64 {
	z := uint64(n) << 1
	if n < 0 {
		// -2 n - 1 is 2 n with all bits turned, and never wraps.
		return ^z
	}
	return z
}

func unfold(z uint64) int {
	if z&1 == 1 {
		return int(^(z >> 1))
	}
	return int(z >> 1)
}

// Real: the eight bytes of f.
func Real(f float64) string {
	z := math.Float64bits(f)
	if math.IsNaN(f) {
		z = notANumber
	}
	out := make([]byte, realBytes)
	for i := range out {
		out[i] = byte(z >> (8 * (realBytes - 1 - i)))
	}
	return string(out)
}

// TakeReal: the fraction at the beginning of b, and what stands behind it.
func TakeReal(b string) (f float64, rest string, e api.Errno) {
	if len(b) < realBytes {
		return 0, "", api.ErrForm
	}
	var z uint64
	for i := range realBytes {
		z = z<<8 | uint64(b[i])
	}
	f = math.Float64frombits(z)
	if math.IsNaN(f) && z != notANumber {
		return 0, "", api.ErrForm
	}
	return f, b[realBytes:], api.OK
}

// Text: how many bytes s has, and they.
func Text(s string) (string, api.Errno) {
	if len(s) > api.MaxText {
		return "", api.ErrLong
	}
	return Num(len(s)) + s, api.OK
}

// TakeText: the text at the beginning of b, and what stands behind it.
func TakeText(b string) (s, rest string, e api.Errno) {
	n, rest, e := takeCount(b, api.MaxText)
	if e != api.OK || n > len(rest) {
		return "", "", api.ErrForm
	}
	return rest[:n], rest[n:], api.OK
}

// Join: how many texts l has, and each one's Text.
func Join(l []string) (string, api.Errno) {
	if len(l) > maxTexts {
		return "", api.ErrLong
	}
	out := []byte(Num(len(l)))
	for _, s := range l {
		t, e := Text(s)
		if e != api.OK {
			return "", e
		}
		out = append(out, t...)
	}
	return string(out), api.OK
}

// Split: the list whose Join is b.
func Split(b string) ([]string, api.Errno) {
	n, rest, e := takeCount(b, maxTexts)
	if e != api.OK {
		return nil, e
	}
	var l []string
	for range n {
		var s string
		s, rest, e = TakeText(rest)
		if e != api.OK {
			return nil, e
		}
		l = append(l, s)
	}
	if rest != "" {
		return nil, api.ErrForm
	}
	return l, api.OK
}

// takeCount: a number from 0 to most, and what stands behind it; no list or text has another count.
func takeCount(b string, most int) (n int, rest string, e api.Errno) {
	n, rest, e = TakeNum(b)
	if e != api.OK || n < 0 || n > most {
		return 0, "", api.ErrForm
	}
	return n, rest, api.OK
}
