package wire

import (
	"math"
	"math/big"
	"strings"
	"testing"

	"tabularium/api"
)

// tails stand behind what is read: nothing, what could be taken for more of a number, and plain bytes.
var tails = []string{"", "\x00", "\x01", "\x80", "\x80\x01", strings.Repeat("\xff", 20), "rest"}

// edgeNumbers: those around each power of two, so around each place where a byte more is needed.
func edgeNumbers() []int {
	seen := map[int]bool{}
	var l []int
	for k := range 64 {
		for d := -2; d <= 2; d++ {
			for _, n := range []int{1<<k + d, -(1 << k) + d} {
				if !seen[n] {
					seen[n] = true
					l = append(l, n)
				}
			}
		}
	}
	return l
}

// plainNum writes n by the words of P1.1, in numbers that can't wrap.
func plainNum(n int) string {
	z := big.NewInt(int64(n))
	z.Mul(z, big.NewInt(2))
	if n < 0 {
		z.Neg(z)
		z.Sub(z, big.NewInt(1))
	}
	var out []byte
	low := new(big.Int)
	for {
		z.DivMod(z, big.NewInt(128), low)
		if z.Sign() == 0 {
			return string(append(out, byte(low.Int64())))
		}
		out = append(out, byte(low.Int64()+128))
	}
}

// refusedNum: ErrForm, and nothing beside it.
func refusedNum(t *testing.T, b string) {
	t.Helper()
	if n, rest, e := TakeNum(b); n != 0 || rest != "" || e != api.ErrForm {
		t.Errorf("TakeNum(% x) = %d, % x, %d", b, n, rest, e)
	}
}

// TestNumExamples: P1.1, the chapter's examples and the numbers at which the form gets longer.
func TestNumExamples(t *testing.T) {
	for _, c := range []struct {
		n    int
		want string
	}{
		{0, "\x00"},
		{-1, "\x01"},
		{1, "\x02"},
		{-2, "\x03"},
		{63, "\x7e"},
		{-64, "\x7f"},
		{64, "\x80\x01"},
		{-65, "\x81\x01"},
		{300, "\xd8\x04"},
		{8191, "\xfe\x7f"},
		{-8192, "\xff\x7f"},
		{8192, "\x80\x80\x01"},
		{api.MaxNumber, "\xfe\xff\xff\xff\xff\xff\xff\x1f"},
		{math.MaxInt, "\xfe\xff\xff\xff\xff\xff\xff\xff\xff\x01"},
		{math.MinInt, "\xff\xff\xff\xff\xff\xff\xff\xff\xff\x01"},
		{math.MinInt + 1, "\xfd\xff\xff\xff\xff\xff\xff\xff\xff\x01"},
	} {
		if got := Num(c.n); got != c.want {
			t.Errorf("Num(%d) = % x, want % x", c.n, got, c.want)
		}
	}
}

// TestNumByItsWords: P1.1, against a writing of its own.
func TestNumByItsWords(t *testing.T) {
	l := edgeNumbers()
	for n := -20000; n <= 20000; n++ {
		l = append(l, n)
	}
	for _, n := range l {
		if got, want := Num(n), plainNum(n); got != want {
			t.Errorf("Num(%d) = % x, want % x", n, got, want)
		}
	}
}

// TestNumAgain: P1.4, what was written is read again, whatever stands behind.
func TestNumAgain(t *testing.T) {
	for _, n := range edgeNumbers() {
		for _, tail := range tails {
			if m, rest, e := TakeNum(Num(n) + tail); m != n || rest != tail || e != api.OK {
				t.Errorf("TakeNum(Num(%d) + % x) = %d, % x, %d", n, tail, m, rest, e)
			}
		}
	}
}

// TestNumCutOff: P1.1, what is cut off is refused.
func TestNumCutOff(t *testing.T) {
	for _, n := range edgeNumbers() {
		whole := Num(n)
		for i := range len(whole) {
			refusedNum(t, whole[:i])
		}
	}
}

// TestNumLonger: P1.1, a form with more bytes than needed is refused, also where it stands for the same number.
func TestNumLonger(t *testing.T) {
	for _, n := range edgeNumbers() {
		b := []byte(Num(n))
		for len(b) < 14 {
			b[len(b)-1] |= 0x80
			b = append(b, 0)
			for _, tail := range tails {
				refusedNum(t, string(b)+tail)
			}
		}
	}
}

// TestNumTooGreat: P1.1, more than 64 bits are no number.
func TestNumTooGreat(t *testing.T) {
	for _, low := range []string{"\x80", "\xff"} {
		nine := strings.Repeat(low, 9)
		if _, _, e := TakeNum(nine + "\x01"); e != api.OK {
			t.Errorf("the 64th bit alone: %d", e)
		}
		for c := 2; c < 256; c++ {
			for _, tail := range tails {
				refusedNum(t, nine+string([]byte{byte(c)})+tail)
			}
		}
	}
	refusedNum(t, strings.Repeat("\x80", 100000))
	refusedNum(t, strings.Repeat("\xff", 100000)+"\x01")
}

// TestTakeNumShort: P1.1, of all bytes up to three: taken are just those that begin with a Num.
func TestTakeNumShort(t *testing.T) {
	forms := map[string]int{}
	for n := -(1 << 13); n < 1<<13; n++ { // all numbers of one byte and of two
		forms[Num(n)] = n
	}
	if len(forms) != 1<<14 {
		t.Fatal("two numbers are written alike", len(forms))
	}
	for _, last := range []string{"", "\x00", "\x80"} {
		for v := range 1 << 16 {
			b := string([]byte{byte(v), byte(v >> 8)}) + last
			size := 1
			n, ok := forms[b[:1]]
			if !ok {
				size = 2
				n, ok = forms[b[:2]]
			}
			if !ok {
				refusedNum(t, b) // also behind two bytes: 00 is one too many, 80 goes on
				continue
			}
			if m, rest, e := TakeNum(b); m != n || rest != b[size:] || e != api.OK {
				t.Fatalf("TakeNum(% x) = %d, % x, %d", b, m, rest, e)
			}
		}
	}
}

// TestNumsUnlike: P1.4, unlike numbers are written unlike, none as the beginning of another one.
func TestNumsUnlike(t *testing.T) {
	l := edgeNumbers()
	for _, m := range l {
		for _, n := range l {
			if m != n && strings.HasPrefix(Num(m), Num(n)) {
				t.Errorf("Num(%d) begins Num(%d)", n, m)
			}
		}
	}
}
