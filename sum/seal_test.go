package sum

import (
	"encoding/binary"
	"hash/crc32"
	"strings"
	"testing"

	"tabularium/api"
	"tabularium/wire"
)

// sealed: Seal of what must have one.
func sealed(t *testing.T, s string) string {
	t.Helper()
	b, e := Seal(s)
	if e != api.OK {
		t.Fatalf("Seal of %d bytes: %d", len(s), e)
	}
	return b
}

func wantOpen(t *testing.T, b, s, rest string) {
	t.Helper()
	gotS, gotRest, e := Open(b)
	if gotS != s || gotRest != rest || e != api.OK {
		t.Errorf("Open(% .20x) = % .20x, % .20x, %d", b, gotS, gotRest, e)
	}
}

// refused: with an error nothing else is answered.
func refused(t *testing.T, b string, want api.Errno) {
	t.Helper()
	if s, rest, e := Open(b); s != "" || rest != "" || e != want {
		t.Errorf("Open(% .20x) = % .20x, % .20x, %d, not %d", b, s, rest, e, want)
	}
}

// P2.2: the bytes of a seal: how many, the text, its sum, the greatest byte first.
func TestSealBytes(t *testing.T) {
	known := map[string]string{
		"":          "\x00\x00\x00\x00\x00",
		"a":         "\x02a\xe8\xb7\xbe\x43",
		"123456789": "\x12123456789\xcb\xf4\x39\x26",
		"\xff":      "\x02\xff\xff\x00\x00\x00",
	}
	for s, want := range known {
		if got := sealed(t, s); got != want {
			t.Errorf("Seal(%q) = % x", s, got)
		}
	}
	for _, s := range edgeTexts() {
		want := binary.BigEndian.AppendUint32([]byte(wire.Num(len(s))+s), crc32.ChecksumIEEE([]byte(s)))
		if got := sealed(t, s); got != string(want) {
			t.Errorf("Seal of %d bytes: % .20x .. % x", len(s), got, got[max(0, len(got)-8):])
		}
	}
}

// P2.2: MaxText bytes may be sealed, one more may not.
func TestSealLong(t *testing.T) {
	if b, e := Seal(mixed(api.MaxText)); len(b) != 2+api.MaxText+4 || e != api.OK {
		t.Errorf("Seal of MaxText bytes: %d bytes, %d", len(b), e)
	}
	for _, n := range []int{api.MaxText + 1, api.MaxText + 2, 100000} {
		if b, e := Seal(mixed(n)); b != "" || e != api.ErrLong {
			t.Errorf("Seal of %d bytes: %d bytes, %d", n, len(b), e)
		}
	}
}

// P2.2: what was sealed is opened, whatever stands behind.
func TestOpenWhatWasSealed(t *testing.T) {
	for _, s := range edgeTexts() {
		b := sealed(t, s)
		for _, rest := range []string{"", "z", "\x00", "\xff\xff", b, sealed(t, "b"), strings.Repeat("y", 5000)} {
			wantOpen(t, b+rest, s, rest)
		}
	}
}

// P2.2: one seal behind the other, each opened in turn.
func TestOpenOneByOne(t *testing.T) {
	var b string
	for _, s := range edgeTexts() {
		b += sealed(t, s)
	}
	for _, s := range edgeTexts() {
		got, rest, e := Open(b)
		if got != s || e != api.OK {
			t.Fatalf("% .20x, %d where % .20x stands", got, e, s)
		}
		b = rest
	}
	if b != "" {
		t.Errorf("% .20x is left", b)
	}
}

// P2.2: a beginning that is no Text, or too few bytes behind it: ErrForm, whatever the sum.
func TestOpenForm(t *testing.T) {
	zeros := strings.Repeat("\x00", 5000)
	wrong := []string{
		"",
		"\x00",                            // the empty text, no sum
		"\x00\x00\x00\x00",                // three bytes of four
		"\x02a",                           // no sum
		"\x02a\xe8\xb7\xbe",               // three bytes of four
		"\x02b\xe8\xb7\xbe",               // three bytes of another text's sum
		"\x04a",                           // one byte of two
		"\x01" + zeros,                    // a length below 0
		"\x80",                            // a number that is cut off
		"\x80\x00" + zeros,                // a number with a byte too many
		"\xff\xff\xff\xff\xff" + "\x00",   // a number that is cut off
		wire.Num(api.MaxText+1) + zeros,   // longer than a text may be
		wire.Num(1<<63-1) + zeros,         // far longer
		wire.Num(-1<<63) + zeros,          // far below 0
		wire.Num(10) + "abcdefghi",        // fewer bytes than told
		wire.Num(api.MaxText) + zeros[:9], // far fewer
	}
	for _, b := range wrong {
		refused(t, b, api.ErrForm)
	}
}

// P2.2: a Text of one byte too many is none, though its sum holds.
func TestOpenTooLongThoughItsSumHolds(t *testing.T) {
	s := mixed(api.MaxText + 1)
	b := binary.BigEndian.AppendUint32([]byte(wire.Num(len(s))+s), crc32.ChecksumIEEE([]byte(s)))
	refused(t, string(b), api.ErrForm)
}

// P2.2: four bytes that are another sum.
func TestOpenSum(t *testing.T) {
	wrong := []string{
		"\x00\x00\x00\x00\x01",
		"\x00\xff\xff\xff\xff",
		"\x02b\xe8\xb7\xbe\x43",
		"\x02a\x43\xbe\xb7\xe8", // the least first
		"\x02a\x17\x48\x41\xbc", // all bits turned
		"\x02a\x00\x00\x00\x00",
		"\x02a\x00\xe8\xb7\xbe\x43", // one byte later
		"\x02a\x49\x5a\x21\xb3",     // of its length too
	}
	for _, b := range wrong {
		refused(t, b, api.ErrSum)
		refused(t, b+"behind", api.ErrSum)
	}
}

// P2.3: one bit that is turned in a text, or in its four bytes, is told.
func TestEachTurnedBitIsTold(t *testing.T) {
	for _, s := range []string{"", "a", "\x00", mixed(8), mixed(9), mixed(64), mixed(300)} {
		b := sealed(t, s)
		for i := len(wire.Num(len(s))) * 8; i < len(b)*8; i++ {
			refused(t, turn(b, i), api.ErrSum)
			refused(t, turn(b, i)+"behind", api.ErrSum)
		}
	}
}

// P2.3: some bits of the longest text, its first and its last among them.
func TestTurnedBitsOfTheLongest(t *testing.T) {
	b := sealed(t, mixed(api.MaxText))
	last := len(b)*8 - 1
	for i := 16; i < last; i += 977 {
		refused(t, turn(b, i), api.ErrSum)
	}
	refused(t, turn(b, last), api.ErrSum)
}

// P2.3: what is cut off is told, wherever.
func TestEachCutIsTold(t *testing.T) {
	for _, s := range edgeTexts() {
		b := sealed(t, s)
		for i := range b {
			if len(b) < 400 || i < 20 || i > len(b)-20 || i%97 == 0 {
				refused(t, b[:i], api.ErrForm)
			}
		}
	}
}

// P4: asked twice, answered alike.
func TestAnsweredAlike(t *testing.T) {
	for _, s := range edgeTexts() {
		if Sum(s) != Sum(s) || sealed(t, s) != sealed(t, s) {
			t.Errorf("two answers of %d bytes", len(s))
		}
	}
}

// P1, P2.2: whatever the bytes, Open ends, and what it opens is what Seal writes.
func FuzzOpen(f *testing.F) {
	for _, b := range []string{"", "\x00\x00\x00\x00\x00", "\x02a\xe8\xb7\xbe\x43z", "\x80\x00", "\x02b\xe8\xb7\xbe\x43"} {
		f.Add(b)
	}
	f.Fuzz(func(t *testing.T, b string) {
		s, rest, e := Open(b)
		if e != api.OK {
			refused(t, b, e)
			return
		}
		if sealed(t, s)+rest != b {
			t.Errorf("% x is opened as % x, % x", b, s, rest)
		}
	})
}
