package sum

import (
	"hash/crc32"
	"slices"
	"strings"
	"testing"

	"tabularium/api"
)

// mixed: n bytes of many values, so that chunks that stand side by side are unlike.
func mixed(n int) string {
	b := make([]byte, n)
	for i := range b {
		b[i] = byte(i*i/7 + 31*i)
	}
	return string(b)
}

// edgeTexts: the empty one, bytes at their edges, lengths around a chunk's end, where the count gets longer, and the longest.
func edgeTexts() []string {
	l := []string{"", "a", "\x00", "\x01", "\x7f", "\x80", "\xff", "\x00\x00", "\xff\xff\xff\xff", "Grüße", "123456789", strings.Repeat("\x00", 40)}
	for _, n := range []int{7, 8, 9, 15, 16, 17, 63, 64, 65, 255, 256, api.MaxText - 1, api.MaxText} {
		l = append(l, mixed(n))
	}
	return l
}

// P2.1: sums that others have told.
func TestSumOfKnownTexts(t *testing.T) {
	known := []struct {
		s    string
		want uint32
	}{
		{"", 0},
		{"a", 0xE8B7BE43},
		{"abc", 0x352441C2},
		{"123456789", 0xCBF43926},
		{"\x00", 0xD202EF8D},
		{"\xff", 0xFF000000},
		{"\x00\x00\x00\x00", 0x2144DF1C},
		{"\xff\xff\xff\xff", 0xFFFFFFFF},
		{"The quick brown fox jumps over the lazy dog", 0x414FA339},
	}
	for _, k := range known {
		if got := Sum(k.s); got != k.want {
			t.Errorf("Sum(%q) = %08X, not %08X", k.s, got, k.want)
		}
	}
}

// P2.1: the library's CRC-32 is another hand's; every byte at every place of a short text, and texts at their edges and past MaxText.
func TestSumAgainstTheLibrary(t *testing.T) {
	l := append(edgeTexts(), mixed(api.MaxText+1), mixed(100000))
	for c := range 256 {
		one := string([]byte{byte(c)})
		l = append(l, one, "x"+one, one+"x", one+one)
	}
	for _, s := range l {
		if got, want := Sum(s), crc32.ChecksumIEEE([]byte(s)); got != want {
			t.Errorf("Sum of %d bytes, % .20x: %08X, not %08X", len(s), s, got, want)
		}
	}
}

// cut: the chunks of s, one by one.
func cut(s string) []string {
	var l []string
	for len(s) > api.MaxChunk {
		l = append(l, s[:api.MaxChunk])
		s = s[api.MaxChunk:]
	}
	if s != "" {
		l = append(l, s)
	}
	return l
}

// P2.1: of each chunk its sum, in order; the last one may be shorter.
func TestChunks(t *testing.T) {
	for _, s := range append(edgeTexts(), mixed(api.MaxText+1), mixed(api.MaxText+9)) {
		var want []uint32
		for _, c := range cut(s) {
			want = append(want, crc32.ChecksumIEEE([]byte(c)))
		}
		if got := Chunks(s); !slices.Equal(got, want) {
			t.Errorf("Chunks of %d bytes: %08X, not %08X", len(s), got, want)
		}
	}
}

// P2.1: how many sums there are, by the text's length.
func TestChunksHowMany(t *testing.T) {
	counts := map[int]int{0: 0, 1: 1, 7: 1, 8: 1, 9: 2, 15: 2, 16: 2, 17: 3, 63: 8, 64: 8, 65: 9, 3999: 500, 4000: 500, 4001: 501}
	for n, want := range counts {
		if got := len(Chunks(mixed(n))); got != want {
			t.Errorf("Chunks of %d bytes: %d, not %d", n, got, want)
		}
	}
}

// P3: lists of two answers share nothing, spare room too.
func TestChunksAreNew(t *testing.T) {
	first, second := Chunks("abcdefghi"), Chunks("abcdefghi")
	clear(first[:cap(first)])
	if want := []uint32{Sum("abcdefgh"), Sum("i")}; !slices.Equal(second, want) || !slices.Equal(Chunks("abcdefghi"), want) {
		t.Error("what was answered is written into")
	}
}

func wantBad(t *testing.T, s string, sums []uint32, want int) {
	t.Helper()
	if got := Bad(s, sums); got != want {
		t.Errorf("Bad of %d bytes, %d sums: %d, not %d", len(s), len(sums), got, want)
	}
}

// P2.1: its own sums are never bad; nil and empty are one list.
func TestBadOfItsOwn(t *testing.T) {
	for _, s := range append(edgeTexts(), mixed(api.MaxText+1)) {
		wantBad(t, s, Chunks(s), -1)
	}
	wantBad(t, "", nil, -1)
	wantBad(t, "", []uint32{}, -1)
}

// P2.1: where only one of both goes on, that place is told.
func TestBadWhereOneEnds(t *testing.T) {
	for _, n := range []int{0, 1, 7, 8, 9, 16, 17, 64, api.MaxText} {
		s := mixed(n)
		sums := Chunks(s)
		for i := range sums {
			wantBad(t, s, sums[:i], i)
		}
		wantBad(t, s, append(slices.Clone(sums), 0), len(sums))
		wantBad(t, s, append(slices.Clone(sums), 1, 2, 3), len(sums))
	}
	wantBad(t, "abcdefghi", Chunks("abcdefgh"), 1)
	wantBad(t, "abcdefgh", Chunks("abcdefghi"), 1)
	wantBad(t, "", []uint32{0}, 0)
	wantBad(t, "a", nil, 0)
}

// P2.1: the first of the unlike places, also where the list has another length.
func TestBadAtTheFirstUnlike(t *testing.T) {
	s := mixed(60)
	sums := Chunks(s)
	for i := range sums {
		turned := slices.Clone(sums)
		turned[i] ^= 1 << (i % 32)
		wantBad(t, s, turned, i)
		wantBad(t, s, append(slices.Clone(turned), 5), i)
		wantBad(t, s, turned[:i+1], i)
		turned[len(turned)-1]++
		wantBad(t, s, turned, i)
	}
	wantBad(t, "xbcdefghi", Chunks("abcdefghi"), 0)
	wantBad(t, "abcdefghx", Chunks("abcdefghi"), 1)
	wantBad(t, "xbcdefghx", Chunks("abcdefghi"), 0)
}

// P2.3: one turned bit of a text is told, at its chunk.
func TestBadTellsEachTurnedBit(t *testing.T) {
	s := mixed(61)
	sums := Chunks(s)
	for i := range len(s) * 8 {
		wantBad(t, turn(s, i), sums, i/8/api.MaxChunk)
	}
}

// P3: the sums that are handed in stay as they are, and what stands behind them.
func TestBadWritesNothing(t *testing.T) {
	all := append(Chunks("abcdefghi"), 7, 8)
	was := slices.Clone(all)
	Bad("abcdefghijklmnopqrstuvwxyz", all[:2])
	Bad("abc", all[:2])
	if !slices.Equal(all, was) {
		t.Errorf("%08X became %08X", was, all)
	}
}

// turn: s, its bit i turned.
func turn(s string, i int) string {
	b := []byte(s)
	b[i/8] ^= 1 << (i % 8)
	return string(b)
}
