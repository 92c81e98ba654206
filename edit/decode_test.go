package edit

import (
	"strings"
	"testing"

	"tabularium/api"
	"tabularium/wire"
)

// P10.1: what was written is read again.
func TestDecode(t *testing.T) {
	for _, e := range rights() {
		wantDecode(t, encoded(t, e), e)
	}
}

// P10.1: with anything behind it, it is no edit's.
func TestDecodeMore(t *testing.T) {
	for _, e := range rights() {
		b := encoded(t, e)
		for c := range 256 {
			refused(t, b+string([]byte{byte(c)}))
		}
		refused(t, b+b)
		refused(t, b+strings.Repeat("\x00", 5000))
	}
}

// P10.1: nor is a beginning of it, nor an end of it, unless that is another edit's.
func TestDecodeCutOff(t *testing.T) {
	for _, e := range rights() {
		b := encoded(t, e)
		for i := range b {
			refused(t, b[:i])
			hold(t, b[i:])
		}
	}
	refused(t, "")
}

// numbersAt: the places in laid(e) at which a number begins, and how many bytes it has.
func numbersAt(t *testing.T, e api.Edit) (places [][2]int) {
	t.Helper()
	b := laid(e)
	at := 0
	for i := range 7 + len(e.Lengths) {
		_, rest, bad := wire.TakeNum(b[at:])
		if bad != api.OK {
			t.Fatalf("no number at %d of % x", at, b)
		}
		size := len(b) - at - len(rest)
		places = append(places, [2]int{at, size})
		at += size
		switch i {
		case 1:
			at += len(e.Path)
		case 2:
			at += len(e.To)
		}
	}
	if at != len(b) {
		t.Fatalf("%d bytes are left of % x", len(b)-at, b)
	}
	return places
}

// P10.1: a number that is written longer than Num writes it, wherever it stands.
func TestDecodeLongerNumbers(t *testing.T) {
	for _, e := range rights() {
		b := encoded(t, e)
		for _, p := range numbersAt(t, e) {
			ahead, behind := b[:p[0]], b[p[0]+p[1]:]
			number := []byte(b[p[0] : p[0]+p[1]])
			for len(number) < 12 {
				number[len(number)-1] |= 0x80
				number = append(number, 0)
				refused(t, ahead+string(number)+behind)
			}
			refused(t, ahead+strings.Repeat("\xff", 10)+"\x01"+behind)
		}
	}
}

// P10.1: another number in the place of one is taken just where the edit is right with it, and the bytes stand for it.
func TestDecodeOtherNumbers(t *testing.T) {
	some := []int{-1 << 63, -greatest, -2, -1, 0, 1, 2, 3, 4, 5, 8, 9, 10, 11, 12, 63, 64, 119, 120, 121, greatest, greatest + 1, 1<<63 - 1}
	for _, e := range rights() {
		b := encoded(t, e)
		for _, p := range numbersAt(t, e) {
			for _, n := range some {
				hold(t, b[:p[0]]+wire.Num(n)+b[p[0]+p[1]:])
			}
		}
	}
}

// P10.1: a count of Lengths below 0, beyond MaxBlocks, beyond what is there, and less than that.
func TestDecodeCount(t *testing.T) {
	for _, kind := range kinds() {
		head := laid(plain(kind))
		head = head[:len(head)-1]
		for _, many := range []int{-1 << 63, -greatest, -9, -8, -2, -1, 9, 10, 64, 8192, greatest, greatest + 1, 1<<63 - 1} {
			for _, there := range []int{0, 1, 8, 9, 10, 64, 8192} {
				refused(t, head+wire.Num(many)+strings.Repeat("\x02", there))
			}
		}
		for many := range 9 {
			for there := range 12 {
				b := head + wire.Num(many) + strings.Repeat("\x02", there)
				if many != there || many > 0 && kind != api.AddBlock && kind != api.Complete {
					refused(t, b)
					continue
				}
				l := make([]int, many)
				for i := range l {
					l[i] = 1
				}
				wantDecode(t, b, withLengths(plain(kind), l...))
			}
		}
	}
}

// P10.1: a length of a text below 0, beyond what is there, beyond what a text may have.
func TestDecodeTexts(t *testing.T) {
	zeros := strings.Repeat("\x00", 10000)
	for _, n := range []int{-1 << 63, -greatest, -2, -1, 121, 4000, 4001, greatest, 1<<63 - 1} {
		for _, behind := range []string{"", "\x00", zeros[:5], zeros[:120], zeros[:121], zeros[:125], zeros[:126], zeros} {
			refused(t, wire.Num(api.Rename)+wire.Num(n)+behind)
			refused(t, wire.Num(api.Rename)+"\x00"+wire.Num(n)+behind)
		}
		if n > 0 && n <= 4001 {
			// As many as are told, so that just the limit of a path is in the way.
			refused(t, wire.Num(api.Rename)+wire.Num(n)+zeros[:n]+"\x00\x00\x00\x00\x00")
			refused(t, wire.Num(api.Rename)+"\x00"+wire.Num(n)+zeros[:n]+"\x00\x00\x00\x00")
		}
	}
}

// P10.1, P2: bytes that are laid as an edit's are, of one that is not right.
func TestDecodeNotRight(t *testing.T) {
	for _, e := range wrongs() {
		refused(t, laid(e))
	}
}

// P10.1: any other bytes: much of one byte, and texts.
func TestDecodeOtherBytes(t *testing.T) {
	for c := range 256 {
		for _, many := range []int{1, 2, 6, 7, 8, 9, 10, 11, 20, 1000, 100000} {
			hold(t, strings.Repeat(string([]byte{byte(c)}), many))
		}
	}
	for _, b := range []string{"/a", "MkDir /a", "\x02/a", "\x04/a\x00\x00\x00\x00\x00", "\x02\x04/a\x00\x00\x00\x00", "\x02\x04/a\x00\x00\x00\x00\x00\x00", "\x00\x04/a\x00\x00\x00\x00\x00", "\x16\x04/a\x00\x00\x00\x00\x00", "\x01\x04/a\x00\x00\x00\x00\x00"} {
		refused(t, b)
	}
}
