package journal

import (
	"fmt"
	"math"
	"slices"
	"strings"
	"testing"

	"tabularium/api"
)

func wantTold(t *testing.T, what, answer string, l api.Log, want api.Errno) {
	t.Helper()
	got, e := Told(answer)
	if !same(got, l) || e != want {
		t.Errorf("%s: Told tells %s, error %d, not %s, error %d", what, brief(got), e, brief(l), want)
	}
}

func wantNoAnswer(t *testing.T, what, answer string) {
	t.Helper()
	wantTold(t, what, answer, api.Log{}, api.ErrForm)
}

// long: a log whose bytes are just size many.
func long(t *testing.T, size int) api.Log {
	t.Helper()
	var data []string
	left := size - len(bytesOf(logOf(1)))
	for left > 2*610 {
		left -= entrySize(len(data)+1, 600)
		data = append(data, strings.Repeat("l", 600))
	}
	at := len(data) + 1
	for first := range 601 {
		for second := range 601 {
			if entrySize(at, first)+entrySize(at+1, second) == left {
				return logOf(1, append(data, strings.Repeat("m", first), strings.Repeat("n", second))...)
			}
		}
	}
	t.Fatalf("no log has %d bytes", size)
	return api.Log{}
}

// entrySize: how many bytes an entry with that many bytes of Data has in a log.
func entrySize(txid, data int) int {
	part := len(num(txid)) + data
	return len(num(part)) + part + 4
}

// P15.1: such a log has the bytes that it is made for.
func TestLong(t *testing.T) {
	for _, size := range []int{3999, 4000, 4001, 8000} {
		if n := len(bytesOf(long(t, size))); n != size {
			t.Errorf("%d bytes, not %d", n, size)
		}
	}
}

// P15.1: with nothing behind it each error is told as it is; OK as an empty log.
func TestToldErrors(t *testing.T) {
	for e := api.OK; e <= api.ErrState; e++ {
		wantTold(t, fmt.Sprint("error ", e), saying(e), api.Log{}, e)
	}
	wantTold(t, "by hand", "\x02\x02\x00", api.Log{}, api.OK)
	wantTold(t, "by hand", "\x02\x02\x14", api.Log{}, api.ErrFence)
}

// P15.1: each log that a node may have, of one piece and of several.
func TestToldLogs(t *testing.T) {
	for what, l := range rights() {
		wantTold(t, what, sayingLog(l), l, api.OK)
	}
	wantTold(t, "by hand", "\x04\x02\x00\x0c\x02\x00\xd2\x02\xef\x8d", api.Log{}, api.OK)
	for _, size := range []int{3999, 4000, 4001, 7999, 8000, 8001, 12000} {
		l := long(t, size)
		wantTold(t, fmt.Sprint(size, " bytes"), sayingLog(l), l, api.OK)
	}
}

// P15.1: an error that is not OK has nothing behind it.
func TestToldBehindAnError(t *testing.T) {
	log := bytesOf(logOf(1, "x"))
	for e := api.ErrArg; e <= api.ErrState; e++ {
		for _, behind := range []string{"", "x", log} {
			wantNoAnswer(t, "one text", joining(num(int(e)), behind))
			wantNoAnswer(t, "two texts", joining(num(int(e)), behind, behind))
		}
	}
}

// P15.1: a number that is no error, or that is written otherwise.
func TestToldNumbers(t *testing.T) {
	log := bytesOf(logOf(1, "x"))
	wrong := []string{"", "\x80", "\x80\x00", "\x94\x00", num(0, 0), num(10) + "x", "x" + num(0), strings.Repeat("\xff", 10)}
	for _, n := range []int{-1, -2, -15, 15, 16, 127, 128, 256, 1 << 32, 1<<32 + 10, math.MinInt, math.MaxInt} {
		wrong = append(wrong, num(n))
	}
	for _, first := range wrong {
		wantNoAnswer(t, fmt.Sprintf("%q", first), joining(first))
		wantNoAnswer(t, fmt.Sprintf("%q and a log", first), joining(first, log))
	}
}

// P15.1: bytes that are no Join, or one of no text.
func TestToldNoJoin(t *testing.T) {
	for _, b := range []string{
		"", "\x00", "\x01", "\x80", "\x02", "\x02\x02", "\x02\x02\x00\x00", "\x00\x02\x00", "\x04\x02\x00", "\x82\x00\x02\x00", "\x02\x82\x00\x00",
		"no answer", promising(1)[1:], strings.Repeat("\xff", 20), saying(api.OK) + "x", sayingLog(logOf(1, "x")) + "\x00",
		num(1001) + num(1) + num(0) + strings.Repeat("\x00", 1000),
		joining(num(0), strings.Repeat("x", 4001)),
	} {
		wantNoAnswer(t, fmt.Sprintf("%.30q", b), b)
	}
	for _, request := range []string{promising(1), accepting(1, "x"), adding(1, 1, "x")} {
		wantNoAnswer(t, "a request", request)
	}
}

// P15.1, P2.3: an answer that is cut off, or has a bit turned, does not tell another log, nor the log's error, but ErrForm.
func TestToldBroken(t *testing.T) {
	for what, l := range map[string]api.Log{"no entries": logOf(3), "three": logOf(greatest, "ab", "", "\x00\xff")} {
		b := sayingLog(l)
		for i := range b {
			wantNoAnswer(t, fmt.Sprint(what, " up to ", i), b[:i])
			wantNoAnswer(t, fmt.Sprint(what, " from ", i+1), b[i+1:])
		}
		for i := range len(b) * 8 {
			turned := []byte(b)
			turned[i/8] ^= 1 << (i % 8)
			wantNoAnswer(t, fmt.Sprint(what, ", bit ", i), string(turned))
		}
	}
}

// P15.1: the pieces are of MaxText bytes, the last one shorter, and never empty.
func TestToldPieces(t *testing.T) {
	wantNoAnswer(t, "nothing in a piece", joining(num(0), ""))
	wantNoAnswer(t, "nothing in two", joining(num(0), "", ""))
	for _, size := range []int{3999, 4000, 4001, 8000, 8001, 12000} {
		whole := cutUp(bytesOf(long(t, size)), 4000)
		for i := range len(whole) + 1 {
			pieces := slices.Insert(slices.Clone(whole), i, "")
			wantNoAnswer(t, fmt.Sprint(size, ", nothing at ", i), joining(append([]string{num(0)}, pieces...)...))
		}
	}
	for what, l := range map[string]api.Log{"one piece": logOf(1, "x", "yy"), "just one": long(t, 4000), "two": long(t, 8000), "three": many(1, 20, 500)} {
		for _, size := range []int{1, 3, 6, 7, 100, 1000, 2000, 3998, 3999} {
			pieces := cutUp(bytesOf(l), size)
			if len(pieces) == 1 || len(pieces) > 999 {
				continue
			}
			wantNoAnswer(t, fmt.Sprint(what, " in pieces of ", size), joining(append([]string{num(0)}, pieces...)...))
		}
	}
	b := bytesOf(long(t, 8001))
	for _, cut := range [][]int{{4000, 8000, 8000}, {3999, 7999}, {3999, 8000}, {4000, 7999}, {1, 4001, 8001}, {4000, 4001, 8001}} {
		texts, at := []string{num(0)}, 0
		for _, to := range append(cut, len(b)) {
			texts, at = append(texts, b[at:to]), to
		}
		wantNoAnswer(t, fmt.Sprint("cut at ", cut), joining(texts...))
	}
}

// P15.1: what stands behind OK is the log's bytes, all of them, and nothing else.
func TestToldNoLog(t *testing.T) {
	for what, l := range wrongs() {
		if b := bytesOf(l); len(b) < 400000 && !strings.Contains(what, "text") {
			wantNoAnswer(t, what, sayingLog(l))
		}
	}
	log := bytesOf(logOf(4, "x"))
	for _, b := range []string{
		"x", "\x00", "\x00\x00\x00\x00\x00", num(4), log[1:], log[:len(log)-1], log + "\x00", log + "x", log + log,
		log + sealing(num(1)+"y"), log + sealing(num(3)+"y"), log + sealing(""), log + sealing("\x84\x00y"), log + sealing(num(2)+strings.Repeat("y", 601)),
		sealing(""), sealing("\x80"), sealing("\x88\x00"), sealing(num(4) + "x"), sealing(num(1) + "x"),
		bytesOf(many(4, 300, 1)) + sealing(num(301)+"y"), strings.Repeat("x", 4000),
	} {
		wantNoAnswer(t, fmt.Sprintf("%.30q", b), joining(append([]string{num(0)}, cutUp(b, 4000)...)...))
	}
	wantNoAnswer(t, "a log of two pieces without its end", joining(num(0), bytesOf(long(t, 8000))[:4000]))
}

// P15.1: more bytes than a log, or a disk's file, has.
func TestToldGreat(t *testing.T) {
	texts := []string{num(0)}
	for range 999 {
		texts = append(texts, strings.Repeat("\x00", 4000))
		if n := len(texts) - 1; n == 99 || n == 100 || n == 101 || n == 999 {
			wantNoAnswer(t, fmt.Sprint(n, " pieces"), joining(texts...))
		}
	}
	b := bytesOf(many(1, 300, 600))
	for len(b) <= 400000 {
		b += sealing(num(301) + strings.Repeat("d", 600))
	}
	wantNoAnswer(t, "a log, and more", joining(append([]string{num(0)}, cutUp(b, 4000)...)...))
}
