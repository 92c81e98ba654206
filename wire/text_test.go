package wire

import (
	"slices"
	"strings"
	"testing"

	"tabularium/api"
)

// edgeTexts: the empty one, bytes that look like numbers, bytes that are no runes, lengths at which the count gets longer, and the longest.
func edgeTexts() []string {
	l := []string{"", "a", "ab", "\x00", "\x80", "\x80\x00", "\xff\xfe", "Grüße", "\x04ab"}
	for _, n := range []int{63, 64, 65, 127, 128, api.MaxText - 1, api.MaxText} {
		l = append(l, strings.Repeat("x", n))
	}
	return l
}

func refusedText(t *testing.T, b string) {
	t.Helper()
	if s, rest, e := TakeText(b); s != "" || rest != "" || e != api.ErrForm {
		t.Errorf("TakeText(% .20x) = % .20x, % .20x, %d", b, s, rest, e)
	}
}

func refusedSplit(t *testing.T, b string) {
	t.Helper()
	if l, e := Split(b); len(l) != 0 || e != api.ErrForm {
		t.Errorf("Split(% .20x) = %d texts, %d", b, len(l), e)
	}
}

// joined: Join of what must have one.
func joined(t *testing.T, l []string) string {
	t.Helper()
	b, e := Join(l)
	if e != api.OK {
		t.Fatalf("Join of %d texts: %d", len(l), e)
	}
	return b
}

// edgeLists: none, one, empty texts, the longest text, and the most texts.
func edgeLists() [][]string {
	return [][]string{
		nil,
		{""},
		{"", "", ""},
		{"a", "", "bc"},
		{"\x00", "\x80\x00", "\xff"},
		edgeTexts(),
		make([]string, 63),
		make([]string, 64),
		slices.Repeat([]string{"x"}, 999),
		slices.Repeat([]string{"x"}, 1000),
		append(make([]string, 999), strings.Repeat("y", api.MaxText)),
	}
}

// TestTextForm: P1.3, Num of how many, and they.
func TestTextForm(t *testing.T) {
	for _, s := range edgeTexts() {
		if b, e := Text(s); b != plainNum(len(s))+s || e != api.OK {
			t.Errorf("Text of %d bytes = % .20x, %d", len(s), b, e)
		}
	}
	if b, _ := Text("ab"); b != "\x04ab" {
		t.Errorf("Text(ab) = % x", b)
	}
}

// TestTextTooLong: P1.3, more than MaxText bytes are neither written nor read.
func TestTextTooLong(t *testing.T) {
	for _, n := range []int{api.MaxText + 1, api.MaxText + 2, 100000} {
		s := strings.Repeat("x", n)
		if b, e := Text(s); b != "" || e != api.ErrLong {
			t.Errorf("Text of %d bytes: %d bytes, %d", n, len(b), e)
		}
		refusedText(t, Num(n)+s)
	}
}

// TestTextAgain: P1.4, what was written is read again, whatever stands behind.
func TestTextAgain(t *testing.T) {
	for _, s := range edgeTexts() {
		b, _ := Text(s)
		for _, tail := range tails {
			if got, rest, e := TakeText(b + tail); got != s || rest != tail || e != api.OK {
				t.Errorf("a text of %d bytes ahead of % x: %d bytes, % x, %d", len(s), tail, len(got), rest, e)
			}
		}
	}
}

// TestTextCutOff: P1.3, what is cut off is refused.
func TestTextCutOff(t *testing.T) {
	for _, s := range edgeTexts() {
		b, _ := Text(s)
		for i := range len(b) {
			refusedText(t, b[:i])
		}
	}
}

// TestTextBadCount: P1.3, counts that no text has: below 0, far past the end, longer than needed.
func TestTextBadCount(t *testing.T) {
	behind := strings.Repeat("x", 5000)
	for _, n := range edgeNumbers() {
		if n < 0 || n > api.MaxText {
			refusedText(t, Num(n)+behind)
			refusedText(t, Num(n))
		}
	}
	refusedText(t, "\x84\x00ab")
	refusedText(t, "\x80\x00")
	refusedText(t, "\x80\x80\x00")
}

// TestJoinForm: P1.3, Num of how many, and each one's Text.
func TestJoinForm(t *testing.T) {
	if b := joined(t, []string{"a", "", "bc"}); b != "\x06\x02a\x00\x04bc" {
		t.Errorf("Join(a, empty, bc) = % x", b)
	}
	if b := joined(t, nil); b != "\x00" {
		t.Errorf("Join(nothing) = % x", b)
	}
	if b := joined(t, []string{}); b != "\x00" {
		t.Errorf("Join(an empty list) = % x", b)
	}
	for _, l := range edgeLists() {
		want := plainNum(len(l))
		for _, s := range l {
			want += plainNum(len(s)) + s
		}
		if joined(t, l) != want {
			t.Errorf("Join of %d texts has another form", len(l))
		}
	}
}

// TestJoinTooLong: P1.3, more than 1000 texts, or one that is too long, wherever it stands.
func TestJoinTooLong(t *testing.T) {
	long := strings.Repeat("x", api.MaxText+1)
	for _, l := range [][]string{
		make([]string, 1001),
		make([]string, 20000),
		{long},
		{long, "a"},
		{"a", long},
		{"a", long, "b"},
		append(make([]string, 999), long),
		append(make([]string, 1000), long),
	} {
		if b, e := Join(l); b != "" || e != api.ErrLong {
			t.Errorf("Join of %d texts: %d bytes, %d", len(l), len(b), e)
		}
	}
}

// TestSplitAgain: P1.4, what was joined is read again; P1.3, whatever stands behind makes it no list.
func TestSplitAgain(t *testing.T) {
	for _, l := range edgeLists() {
		b := joined(t, l)
		if got, e := Split(b); !slices.Equal(got, l) || e != api.OK {
			t.Errorf("Split of %d texts: %d, %d", len(l), len(got), e)
		}
		for _, tail := range tails {
			if tail != "" {
				refusedSplit(t, b+tail)
			}
		}
	}
}

// TestSplitCutOff: P1.3, what is cut off is refused, at every place.
func TestSplitCutOff(t *testing.T) {
	for _, l := range edgeLists() {
		b := joined(t, l)
		step := 1 + len(b)/3000
		for i := 0; i < len(b); i += step {
			refusedSplit(t, b[:i])
		}
		refusedSplit(t, b[:len(b)-1])
	}
}

// TestSplitBadCount: P1.3, counts that no list has, and texts within that are none.
func TestSplitBadCount(t *testing.T) {
	for _, n := range edgeNumbers() {
		if n < 0 || n > 1000 {
			refusedSplit(t, Num(n))
			refusedSplit(t, Num(n)+strings.Repeat("\x00", 1001))
		}
	}
	refusedSplit(t, Num(1001)+strings.Repeat("\x00", 1001))
	refusedSplit(t, "\x80\x00")
	refusedSplit(t, "\x82\x00\x02a")
	refusedSplit(t, "\x02\x82\x00a")
	refusedSplit(t, "\x02\x01")
	refusedSplit(t, "\x04\x02a")
	refusedSplit(t, Num(1)+Num(api.MaxText+1)+strings.Repeat("x", api.MaxText+1))
	refusedSplit(t, "")
}

// TestSplitShort: P1.3, of all bytes up to four of a small set: split are just those that Join writes.
func TestSplitShort(t *testing.T) {
	set := []byte{0, 1, 2, 3, 4, 6, 0x7f, 0x80, 0x82, 0xff}
	all := []string{""}
	for i := 0; len(all[i]) < 4; i++ {
		for _, c := range set {
			all = append(all, all[i]+string([]byte{c}))
		}
	}
	taken := 0
	for _, b := range all {
		l, e := Split(b)
		if e != api.OK {
			refusedSplit(t, b)
			continue
		}
		taken++
		if joined(t, l) != b {
			t.Errorf("Split(% x) = %q, which is not joined so", b, l)
		}
	}
	// 00; 02 00; 02 02 c; 02 04 c d; 04 00 00; 04 00 02 c; 04 02 c 00; 06 00 00 00
	if want := 1 + 1 + 10 + 100 + 1 + 10 + 10 + 1; taken != want {
		t.Errorf("%d were taken, want %d", taken, want)
	}
}

// TestJoinWritesNothing: P3, neither the list nor what stands behind it in its array is written into.
func TestJoinWritesNothing(t *testing.T) {
	array := []string{"a", "b", "behind"}
	joined(t, array[:2])
	if !slices.Equal(array, []string{"a", "b", "behind"}) {
		t.Errorf("%q", array)
	}
}

// TestSplitNewMemory: P3, two answers share no list, spare room too.
func TestSplitNewMemory(t *testing.T) {
	b := joined(t, []string{"a", "b", "c"})
	first, _ := Split(b)
	second, _ := Split(b)
	first = first[:cap(first)]
	for i := range first {
		first[i] = "other"
	}
	third, _ := Split(b)
	for _, l := range [][]string{second, third} {
		if !slices.Equal(l, []string{"a", "b", "c"}) {
			t.Errorf("%q", l)
		}
	}
}

// TestTakesInARow: P1.4, numbers, fractions and texts one behind the other come back in their order.
func TestTakesInARow(t *testing.T) {
	text, _ := Text("name")
	b := Num(-7) + Real(-0.5) + text + Num(1<<40)
	n, b, e := TakeNum(b)
	if n != -7 || e != api.OK {
		t.Error(n, e)
	}
	f, b, e := TakeReal(b)
	if f != -0.5 || e != api.OK {
		t.Error(f, e)
	}
	s, b, e := TakeText(b)
	if s != "name" || e != api.OK {
		t.Error(s, e)
	}
	if n, b, e = TakeNum(b); n != 1<<40 || b != "" || e != api.OK {
		t.Error(n, b, e)
	}
}

// FuzzTake: P1, no bytes make a call panic; P1.1 to P1.4, what is taken is just what is written.
func FuzzTake(f *testing.F) {
	for _, b := range append(edgeTexts(), tails...) {
		f.Add(b)
	}
	f.Fuzz(func(t *testing.T, b string) {
		if n, rest, e := TakeNum(b); e == api.OK && Num(n)+rest != b {
			t.Errorf("TakeNum(% x)", b)
		}
		if r, rest, e := TakeReal(b); e == api.OK && Real(r)+rest != b {
			t.Errorf("TakeReal(% x)", b)
		}
		if s, rest, e := TakeText(b); e == api.OK {
			if x, _ := Text(s); x+rest != b {
				t.Errorf("TakeText(% x)", b)
			}
		}
		if l, e := Split(b); e == api.OK {
			if x, _ := Join(l); x != b {
				t.Errorf("Split(% x)", b)
			}
		}
	})
}
