package log

import (
	"fmt"
	"math"
	"slices"
	"strings"
	"testing"

	"tabularium/api"
	"tabularium/disk"
)

// loaded: Load of a file with these bytes.
func loaded(t *testing.T, b string) (api.Log, bool, api.Errno) {
	t.Helper()
	return Load(holding(t, plenty, "j", b), "j")
}

// wantRead: a file of these bytes is that log.
func wantRead(t *testing.T, what, b string, l api.Log, whole bool) {
	t.Helper()
	wantLoad(t, what, holding(t, plenty, "j", b), "j", l, whole)
}

// wantForm: a file of these bytes is no log.
func wantForm(t *testing.T, what, b string) {
	t.Helper()
	wantNoLoad(t, what, holding(t, plenty, "j", b), "j", api.ErrForm)
}

// first: l with its first n entries alone.
func first(l api.Log, n int) api.Log {
	return api.Log{Epoch: l.Epoch, Entries: l.Entries[:n]}
}

// some logs, small enough to try much at each place.
func some() map[string]api.Log {
	return map[string]api.Log{
		"no entry":      logOf(3),
		"one":           logOf(0, "x"),
		"three":         logOf(greatest, "ab", "", "\x00\xff"),
		"long ones":     many(64, 2, 600),
		"like parts":    logOf(1, sealing(entryPart(2, "x")), sealing(entryPart(2, "x")), sealing(numbered(1))),
		"of one length": logOf(1, "d", "d", "d", "d"),
	}
}

// P14.3, P14.1: what Bytes wrote is read again.
func TestLoad(t *testing.T) {
	for what, l := range rights() {
		b, _ := Bytes(l)
		wantRead(t, what, b, l, true)
	}
}

// P14.3: no file, whatever the name is; a file whose name no log has is read as any.
func TestLoadNames(t *testing.T) {
	for _, name := range []string{"", "k", "j.new", "J", strings.Repeat("n", 16), strings.Repeat("n", 17), strings.Repeat("n", 30), strings.Repeat("n", 31), strings.Repeat("n", 5000)} {
		wantNoLoad(t, name, disk.New(1000), name, api.ErrNone)
		wantNoLoad(t, name, holding(t, 1000, "j", bytesOf(logOf(1))), name, api.ErrNone)
		if n := len(name); n > 0 && n <= 30 {
			wantLoad(t, name, holding(t, 1000, name, bytesOf(logOf(1, "x"))), name, logOf(1, "x"), true)
		}
	}
}

// P14.3: synced or not, the bytes are read.
func TestLoadNotSynced(t *testing.T) {
	d := disk.New(1000)
	want(t, "Append", d.Append("j", bytesOf(logOf(1, "x"))), api.OK)
	wantLoad(t, "not synced", d, "j", logOf(1, "x"), true)
	d.Crash(nil)
	wantNoLoad(t, "lost", d, "j", api.ErrNone)
}

// P14.3: Load changes nothing, and burns no fuse.
func TestLoadChangesNothing(t *testing.T) {
	for _, b := range []string{"", "no log", bytesOf(logOf(1, "x")), bytesOf(logOf(1, "x")) + "torn"} {
		d := holding(t, 1000, "j", b)
		put(t, d, "j.new", "left")
		d.Fuse(1)
		for range 3 {
			Load(d, "j")
			Load(d, "k")
		}
		if d.Down() {
			t.Error("the power went")
		}
		wantFiles(t, "loaded", d, "j", b, "j.new", "left")
	}
}

// P14.3: what does not begin with a sealed part, or with one of another sum, is no log, whatever stands behind.
func TestLoadBeginsWrong(t *testing.T) {
	head, rest := sealing(numbered(3)), sealing(entryPart(1, "x"))
	for _, b := range []string{
		"", "\x00", "\x02", "\x02\x06", "no log at all",
		numbered(3), numbered(1, 3),
		head[1:], "\x00" + head, rest,
		"\x02\x06\x3b\x61\x4a\xb9", "\x02\x06\x3a\x61\x4a\xb8", "\x02\x06\xb8\x4a\x61\x3b", "\x02\x08\x3b\x61\x4a\xb8",
		"\x01\x06\x3b\x61\x4a\xb8",
		"\x82\x00\x06\x3b\x61\x4a\xb8", // a length that is written longer than it need be
		sealing(strings.Repeat("x", 4000)),
		"\xc2\x3e" + strings.Repeat("x", 4001) + "\x00\x00\x00\x00",
	} {
		wantForm(t, fmt.Sprintf("%.20q", b), b)
		wantForm(t, fmt.Sprintf("%.20q, more behind", b), b+rest)
	}
}

// P14.3: the first part is a number that may be an epoch, and nothing else.
func TestLoadEpoch(t *testing.T) {
	rest := sealing(entryPart(1, "x"))
	wrong := []string{"", "\x80", "\x80\x00", "\x86\x00", "\xff\xff\xff\xff\xff\xff\xff\xff\xff\x02", strings.Repeat("\xff", 20)}
	for _, n := range []int{-1, -2, -64, -greatest, math.MinInt, greatest + 1, greatest + 2, 1 << 60, math.MaxInt} {
		wrong = append(wrong, numbered(n))
	}
	for _, n := range []int{0, 1, 3, 64, greatest} {
		wantRead(t, "an epoch", sealing(numbered(n))+rest, logOf(n, "x"), true)
		for c := range 256 {
			wrong = append(wrong, numbered(n)+string([]byte{byte(c)}))
		}
		wrong = append(wrong, numbered(n, n), numbered(n)+sealing(numbered(n)), "\x00"+numbered(n), numbered(n)+strings.Repeat("x", 600))
	}
	for _, part := range wrong {
		wantForm(t, fmt.Sprintf("%.20q", part), sealing(part))
		wantForm(t, fmt.Sprintf("%.20q, more behind", part), sealing(part)+rest)
	}
}

// ends: where each part of l ends in its bytes.
func ends(l api.Log) []int {
	var out []int
	at := 0
	for _, p := range partsOf(l) {
		at += len(sealing(p))
		out = append(out, at)
	}
	return out
}

// P14.3: each part cut off, byte by byte: as many entries as are there, whole where one ends.
func TestLoadCutOff(t *testing.T) {
	for what, l := range some() {
		b, ends := bytesOf(l), ends(l)
		for i := range len(b) + 1 {
			there := 0
			for there < len(ends) && ends[there] <= i {
				there++
			}
			if there == 0 {
				wantForm(t, what, b[:i])
				continue
			}
			wantRead(t, fmt.Sprint(what, " up to ", i), b[:i], first(l, there-1), slices.Contains(ends, i))
		}
	}
}

// P14.3, P2.3: one bit turned, in each byte: the part that it is in, and all behind it, is not told.
func TestLoadTurned(t *testing.T) {
	for what, l := range some() {
		b, ends := bytesOf(l), ends(l)
		for i := range len(b) * 8 {
			turned := []byte(b)
			turned[i/8] ^= 1 << (i % 8)
			ahead := 0
			for ends[ahead] <= i/8 {
				ahead++
			}
			if ahead == 0 {
				wantForm(t, what, string(turned))
				continue
			}
			wantRead(t, fmt.Sprint(what, ", bit ", i), string(turned), first(l, ahead-1), false)
		}
	}
}

// P14.3: an entry twice, one missing, two in each other's places: the numbers must go on from 1.
func TestLoadOtherOrders(t *testing.T) {
	for what, l := range map[string]api.Log{"four": logOf(999, "a", "b", "c", "d"), "all": many(999, api.MaxEdits, 2)} {
		parts := partsOf(l)
		n := len(parts)
		for _, i := range []int{1, 2, n / 2, n - 1} {
			twice := slices.Insert(slices.Clone(parts), i, parts[i])
			wantRead(t, what+", one twice", laid(twice...), first(l, i), false)
			missing := slices.Delete(slices.Clone(parts), i, i+1)
			wantRead(t, what+", one missing", laid(missing...), first(l, i-1), i == n-1)
			if i == n-1 {
				continue
			}
			swapped := slices.Clone(parts)
			swapped[i], swapped[n-1] = swapped[n-1], swapped[i]
			wantRead(t, what+", two swapped", laid(swapped...), first(l, i-1), false)
		}
		falling := slices.Clone(parts)
		slices.Reverse(falling[1:])
		wantRead(t, what+", falling", laid(falling...), first(l, 0), false)
		again := slices.Concat(parts, parts)
		wantRead(t, what+", all of it twice", laid(again...), l, false)
		wantRead(t, what+", its epoch twice", laid(slices.Insert(slices.Clone(parts), 1, parts[0])...), first(l, 0), false)
	}
}

// P14.3: behind a part that can't be read no other one counts, also not the one that would come next.
func TestLoadStops(t *testing.T) {
	ahead, next := bytesOf(logOf(5, "a")), sealing(entryPart(2, "b"))
	for _, b := range []string{"\x00", "x", sealing(""), sealing("\x80"), sealing("\x84\x00b"), sealing(entryPart(1, "b")), sealing(entryPart(3, "b")), sealing(entryPart(2, strings.Repeat("b", 601))), next[:len(next)-1], next[:len(next)-1] + "\x00"} {
		wantRead(t, fmt.Sprintf("%.20q", b), ahead+b, logOf(5, "a"), false)
		wantRead(t, fmt.Sprintf("%.20q, and the next one", b), ahead+b+next, logOf(5, "a"), false)
	}
	wantRead(t, "the next one alone", ahead+next, logOf(5, "a", "b"), true)
}

// P14.3, P6: numbers in an entry's place that it must not have, also such as wrap.
func TestLoadTxids(t *testing.T) {
	for there := range 3 {
		l := logOf(5, []string{"a", "b"}[:there]...)
		for _, n := range []int{math.MinInt, math.MinInt + 1, -greatest, -3, -2, -1, 0, 1, 2, 3, 4, 5, 257, 300, 301, 1 << 32, 1<<32 + 1, greatest, math.MaxInt} {
			b := bytesOf(l) + sealing(entryPart(n, "z"))
			if n == there+1 {
				wantRead(t, "the next one", b, logOf(5, append([]string{"a", "b"}[:there:there], "z")...), true)
			} else {
				wantRead(t, fmt.Sprint(n, " behind ", there), b, l, false)
			}
		}
	}
}

// P14.3: Data of no byte, of 600 and of 601, in the first entry and in a later one; and of as many as a text may have.
func TestLoadData(t *testing.T) {
	for there := range 2 {
		ahead := []string{"a"}[:there]
		for _, size := range []int{0, 1, 599, 600, 601, 602, 1000, api.MaxText - 1} {
			data := strings.Repeat("d", size)
			b := bytesOf(logOf(5, ahead...)) + sealing(entryPart(there+1, data))
			if size <= 600 {
				wantRead(t, fmt.Sprint(size), b, logOf(5, append(slices.Clone(ahead), data)...), true)
			} else {
				wantRead(t, fmt.Sprint(size), b, logOf(5, ahead...), false)
			}
		}
	}
}

// P14.3: one entry more than there may be is left behind, and much more.
func TestLoadTooMany(t *testing.T) {
	for n := 298; n <= 303; n++ {
		l := many(5, n, 2)
		wantRead(t, fmt.Sprint(n), bytesOf(l), first(l, min(n, api.MaxEdits)), n <= api.MaxEdits)
	}
	l := many(5, 20000, 2)
	wantRead(t, "very many", bytesOf(l), first(l, api.MaxEdits), false)
}

// P14.3: anything behind the last entry is told, also behind as many as there may be.
func TestLoadBehind(t *testing.T) {
	all := some()
	all["as many as may be"] = many(5, api.MaxEdits, 1)
	for what, l := range all {
		b := bytesOf(l)
		for c := range 256 {
			wantRead(t, what, b+string([]byte{byte(c)}), l, false)
		}
		for _, more := range []string{"\x00\x00\x00\x00", sealing(""), sealing("\x00"), sealing("x"), sealing(numbered(-1)), strings.Repeat("\xff", 5000), strings.Repeat("\x00", 5000)} {
			wantRead(t, what, b+more, l, false)
		}
	}
}
