package journal

import (
	"fmt"
	"math"
	"strings"
	"testing"

	"tabularium/api"
	"tabularium/disk"
)

// diskOf: a disk with that promise, none if it is 0, and that log, none if it is nothing at all.
func diskOf(t *testing.T, promised int, l api.Log) *disk.Disk {
	t.Helper()
	return holding(t, plenty, filesOf(promised, l)...)
}

// filesOf: the files of a node that has promised that, and has that log.
func filesOf(promised int, l api.Log) []string {
	var out []string
	if l.Epoch != 0 || len(l.Entries) > 0 {
		out = append(out, "log", bytesOf(l))
	}
	if promised != 0 {
		out = append(out, "promise", promiseOf(promised))
	}
	return out
}

// having: a node that has promised that, and has that log.
func having(t *testing.T, promised int, l api.Log) (*Journal, *disk.Disk) {
	t.Helper()
	d := diskOf(t, promised, l)
	return opened(t, "having", d), d
}

// wantHaving: j has this, and so has its disk, in files that last, and a node that is opened there.
func wantHaving(t *testing.T, what string, j *Journal, d *disk.Disk, promised int, l api.Log) {
	t.Helper()
	wantNode(t, what, j, promised, l)
	wantLasting(t, what, d, filesOf(promised, l)...)
	wantNode(t, what+", opened anew", opened(t, what, d), promised, l)
}

// refused: j answers with that error, and nothing changes, nor is the disk asked for anything.
func refused(t *testing.T, what string, promised int, l api.Log, request string, e api.Errno) {
	t.Helper()
	j, d := having(t, promised, l)
	d.Fuse(1)
	wantAnswer(t, what, j, request, saying(e))
	wantAnswer(t, what+", again", j, request, saying(e))
	if d.Down() {
		t.Errorf("%s: a call of the disk", what)
	}
	wantHaving(t, what, j, d, promised, l)
}

// done: j answers that, and has then what is to come; the same request is answered as told then, without a change.
func done(t *testing.T, what string, promised int, l api.Log, request, answer string, then int, next api.Log, again api.Errno) {
	t.Helper()
	j, d := having(t, promised, l)
	wantAnswer(t, what, j, request, answer)
	wantHaving(t, what, j, d, then, next)
	refused(t, what+", twice", then, next, request, again)
	wantAnswer(t, what+", once more", j, request, saying(again))
	wantHaving(t, what+", once more", j, d, then, next)
}

// noRequests: bytes that are none, by what is wrong with them.
func noRequests() map[string]string {
	all := map[string]string{
		"nothing":            "",
		"no text":            joining(),
		"one text":           joining("x"),
		"no kind":            joining("", num(1)),
		"p alone":            joining("p"),
		"p, a text too many": joining("p", num(1), ""),
		"p and a log":        joining("p", num(1), bytesOf(logOf(1))),
		"p in one text":      joining("p" + num(1)),
		"p, the epoch ahead": joining(num(1), "p"),
		"a alone":            joining("a"),
		"a, 601 bytes":       accepting(1, "x", strings.Repeat("d", 601)),
		"a, 601 bytes first": accepting(1, strings.Repeat("d", 601), "x"),
		"a, 301 entries":     accepting(1, dataOf(many(1, 301, 3))...),
		"a, 301 of no bytes": accepting(1, dataOf(many(1, 301, 0))...),
		"a, 998 entries":     accepting(1, dataOf(many(1, 998, 1))...),
		"a, 999 entries":     accepting(1, dataOf(many(1, 999, 1))...),
		"a, a text too long": accepting(1, strings.Repeat("d", 4001)),
		"w alone":            joining("w"),
		"w and an epoch":     joining("w", num(1)),
		"w, no data":         joining("w", num(1), num(1)),
		"w, a text too many": joining("w", num(1), num(1), "x", ""),
		"w, two data":        joining("w", num(1), num(1), "x", "y"),
		"w, 601 bytes":       adding(1, 1, strings.Repeat("d", 601)),
		"w, 4001 bytes":      adding(1, 1, strings.Repeat("d", 4001)),
		"w, text for a Txid": joining("w", num(1), "ww", num(1)),
		"an answer":          saying(api.OK),
		"a log's answer":     sayingLog(logOf(1, "x")),
	}
	for _, kind := range []string{"", "P", "A", "W", "q", "x", "pp", "aa", "ww", "p ", " p", "p\x00", "pa", "\x00", "promise", strings.Repeat("p", 4000)} {
		all[fmt.Sprintf("kind %.10q, p", kind)] = joining(kind, num(9))
		all[fmt.Sprintf("kind %.10q, a", kind)] = joining(kind, num(9), "x", "y", "z")
		all[fmt.Sprintf("kind %.10q, w", kind)] = joining(kind, num(9), num(1), "x")
	}
	for what, n := range noNumbers() {
		all["p "+what], all["a "+what], all["w "+what] = joining("p", n), joining("a", n, "x"), joining("w", n, num(1), "x")
		all["w, the Txid "+what] = joining("w", num(9), n, "x")
	}
	for _, n := range wrongEpochs() {
		all[fmt.Sprint("p, epoch ", n)], all[fmt.Sprint("a, epoch ", n)], all[fmt.Sprint("w, epoch ", n)] = promising(n), accepting(n, "x"), adding(n, 1, "x")
	}
	for _, n := range []int{0, -1, -300, math.MinInt, 301, 302, 1<<32 + 1, greatest, greatest + 1, math.MaxInt} {
		all[fmt.Sprint("w, Txid ", n)] = adding(9, n, "x")
	}
	for what, b := range map[string]string{"p": promising(9), "a": accepting(9, "x", "", "z"), "w": adding(9, 1, "x")} {
		for i := range b {
			all[fmt.Sprint(what, " up to ", i)] = b[:i]
			all[fmt.Sprint(what, " from ", i+1)] = b[i+1:]
		}
		all[what+", a byte behind"] = b + "\x00"
		all[what+" twice"] = b + b
	}
	return all
}

// noNumbers: texts that no number is, alone.
func noNumbers() map[string]string {
	return map[string]string{
		"no byte":        "",
		"no end":         "\x80",
		"longer":         "\x82\x00",
		"a byte behind":  num(1) + "\x00",
		"text behind":    num(1) + "x",
		"twice":          num(1, 1),
		"more than may":  strings.Repeat("\xff", 9) + "\x02",
		"much too long":  strings.Repeat("\xff", 30),
		"a sealed one":   sealing(num(1)),
		"a joined one":   joining(num(1)),
		"in digits":      "1",
		"a byte ahead":   "\x00" + num(1),
		"nothing's text": num(0) + num(0),
	}
}

// P15.3: ErrForm to all that is no request, whatever the node has.
func TestHandleForm(t *testing.T) {
	for what, b := range noRequests() {
		refused(t, what, 0, api.Log{}, b, api.ErrForm)
		refused(t, what, 1, logOf(1, "x"), b, api.ErrForm)
		refused(t, what, greatest, logOf(greatest, "x"), b, api.ErrForm)
	}
}

// P15.3: requests that look odd, and are some.
func TestHandleOdd(t *testing.T) {
	done(t, "no entries", 0, api.Log{}, joining("a", num(1)), saying(api.OK), 1, logOf(1), api.OK)
	done(t, "one of no byte", 0, api.Log{}, joining("a", num(1), ""), saying(api.OK), 1, logOf(1, ""), api.OK)
	done(t, "entries like numbers", 0, api.Log{}, joining("a", num(1), num(7), "w"), saying(api.OK), 1, logOf(1, num(7), "w"), api.OK)
	done(t, "data of no byte", 1, logOf(1), joining("w", num(1), num(1), ""), saying(api.OK), 1, logOf(1, ""), api.OK)
	done(t, "data like a request", 1, logOf(1), adding(1, 1, promising(2)), saying(api.OK), 1, logOf(1, promising(2)), api.OK)
}

// P15.3, p: an epoch that is greater than what was promised, whatever the log's is; the answer has the log.
func TestHandlePromise(t *testing.T) {
	for _, l := range []api.Log{{}, logOf(1), logOf(3, "x", "yy"), logOf(greatest, "z"), many(2, 300, 5), many(9, 300, 600), long(t, 4000), long(t, 8000)} {
		for _, promised := range []int{0, 1, 2, 3, 64, greatest - 1, greatest} {
			for _, epoch := range []int{1, 2, 3, 4, 63, 64, 65, greatest - 1, greatest} {
				what := fmt.Sprint(brief(l), ", ", promised, ", p ", epoch)
				if epoch <= promised {
					refused(t, what, promised, l, promising(epoch), api.ErrFence)
				} else {
					done(t, what, promised, l, promising(epoch), sayingLog(l), epoch, l, api.ErrFence)
				}
			}
		}
	}
}

// P15.3, a: ErrFence below what was promised; also where the epoch is the log's.
func TestHandleAcceptFenced(t *testing.T) {
	for _, l := range []api.Log{{}, logOf(1), logOf(3, "x", "yy"), logOf(4, "x", "yy"), logOf(greatest, "x")} {
		for _, epoch := range []int{1, 2, 3, 4} {
			for _, data := range [][]string{nil, {"x"}, {"x", "yy"}, {"z"}} {
				refused(t, fmt.Sprint(brief(l), ", a ", epoch, data), 5, l, accepting(epoch, data...), api.ErrFence)
			}
		}
	}
	refused(t, "the greatest one", greatest, logOf(greatest-1, "x"), accepting(greatest-1, "x"), api.ErrFence)
}

// P15.3, a: where the epoch is the log's, and not below what was promised: OK to its beginnings, ErrGap to all else; nothing changes, nor is anything promised.
func TestHandleAcceptSame(t *testing.T) {
	l := logOf(5, "x", "yy", "", "zz")
	beginnings := [][]string{nil, {"x"}, {"x", "yy"}, {"x", "yy", ""}, {"x", "yy", "", "zz"}}
	others := [][]string{{""}, {"y"}, {"xx"}, {"yy"}, {"x", "y"}, {"x", "yy", "zz"}, {"x", "yy", "", "zz", ""}, {"x", "yy", "", "zz", "more"}, {"x", "yy", "", "z"}, {"y", "yy", "", "zz"}, {"x", "yy", "", "zz", "x", "yy", "", "zz"}, {"", "x"}}
	for _, promised := range []int{0, 1, 4, 5} {
		for _, data := range beginnings {
			refused(t, fmt.Sprint(promised, data), promised, l, accepting(5, data...), api.OK)
		}
		for _, data := range others {
			refused(t, fmt.Sprint(promised, data), promised, l, accepting(5, data...), api.ErrGap)
		}
	}
	full := many(5, 300, 3)
	for n := range 301 {
		j, _ := having(t, 5, full)
		wantAnswer(t, "full", j, accepting(5, dataOf(full)[:n]...), saying(api.OK))
	}
	for _, promised := range []int{1, 5} {
		refused(t, "a log without entries", promised, logOf(5), accepting(5), api.OK)
		refused(t, "a log without entries", promised, logOf(5), accepting(5, ""), api.ErrGap)
	}
}

// P15.3, a: with another epoch the log is these entries, whatever it was; what is greater than the promise is promised.
func TestHandleAccept(t *testing.T) {
	for _, l := range []api.Log{{}, logOf(1), logOf(3, "x", "yy"), logOf(7, "x", "yy"), many(8, 300, 600), logOf(greatest, "q")} {
		for _, promised := range []int{0, 1, 4, 5, 6} {
			for _, epoch := range []int{promised, promised + 1, promised + 2, 64, greatest - 1} {
				if epoch == l.Epoch || epoch == 0 {
					continue
				}
				for _, data := range [][]string{nil, {"x"}, {"x", "yy"}, {"x", "yy", "new"}, {"other"}, {"", ""}} {
					what := fmt.Sprint(brief(l), ", ", promised, ", a ", epoch, data)
					done(t, what, promised, l, accepting(epoch, data...), saying(api.OK), epoch, logOf(epoch, data...), api.OK)
				}
			}
		}
	}
	for what, l := range rights() {
		if l.Epoch > 0 {
			done(t, what, 1, logOf(0, "old"), accepting(l.Epoch, dataOf(l)...), saying(api.OK), l.Epoch, l, api.OK)
		}
	}
}

// P15.3, w: ErrFence, where the epoch is not what was promised, or not the log's; ahead of ErrGap, and of an entry that is there.
func TestHandleAddFenced(t *testing.T) {
	for _, l := range []api.Log{{}, logOf(1, "x"), logOf(4, "x"), logOf(5, "x"), logOf(6, "x"), logOf(greatest, "x")} {
		for _, promised := range []int{0, 1, 4, 5, 6, greatest} {
			for _, epoch := range []int{1, 4, 5, 6, greatest} {
				if epoch == promised && epoch == l.Epoch {
					continue
				}
				for _, x := range []api.Entry{{Txid: 1, Data: "x"}, {Txid: 1, Data: "y"}, {Txid: 2, Data: "y"}, {Txid: 3, Data: "y"}, {Txid: 300}} {
					refused(t, fmt.Sprint(brief(l), ", ", promised, ", w ", epoch, x), promised, l, adding(epoch, x.Txid, x.Data), api.ErrFence)
				}
			}
		}
	}
}

// P15.3, w: an entry that is there already, with the same Data and with other; the next one; those above it.
func TestHandleAdd(t *testing.T) {
	for _, epoch := range []int{1, 64, greatest} {
		l := logOf(epoch, "x", "", "zz")
		for i, s := range dataOf(l) {
			refused(t, fmt.Sprint("the same at ", i+1), epoch, l, adding(epoch, i+1, s), api.OK)
			for _, other := range []string{"", "x", "z", "zz", "zzz", "xx", "y", "\x00"} {
				if other != s {
					refused(t, fmt.Sprintf("%q at %d", other, i+1), epoch, l, adding(epoch, i+1, other), api.ErrGap)
				}
			}
		}
		for _, s := range []string{"", "x", "zz", "new", strings.Repeat("d", 599), strings.Repeat("d", 600)} {
			done(t, "the next one", epoch, l, adding(epoch, 4, s), saying(api.OK), epoch, logOf(epoch, append(dataOf(l), s)...), api.OK)
			done(t, "the first one", epoch, logOf(epoch), adding(epoch, 1, s), saying(api.OK), epoch, logOf(epoch, s), api.OK)
			for _, txid := range []int{5, 6, 7, 299, 300} {
				refused(t, fmt.Sprint("at ", txid), epoch, l, adding(epoch, txid, s), api.ErrGap)
			}
			refused(t, "the second one", epoch, logOf(epoch), adding(epoch, 2, s), api.ErrGap)
		}
	}
}

// P15.3, w: entry by entry, as many as there may be; each lasts; the last one is there then, and no other fits.
func TestHandleAddAll(t *testing.T) {
	whole := many(5, 300, 7)
	j, d := having(t, 5, logOf(5))
	for i, x := range whole.Entries {
		if i < 299 {
			wantAnswer(t, "one above it", j, adding(5, i+2, x.Data), saying(api.ErrGap))
		}
		wantAnswer(t, "the next one", j, adding(5, i+1, x.Data), saying(api.OK))
		wantAnswer(t, "again", j, adding(5, i+1, x.Data), saying(api.OK))
		wantHaving(t, "so far", j, d, 5, api.Log{Epoch: 5, Entries: whole.Entries[:i+1]})
	}
	refused(t, "full, the last one", 5, whole, adding(5, 300, whole.Entries[299].Data), api.OK)
	refused(t, "full, another last one", 5, whole, adding(5, 300, "other"), api.ErrGap)
	refused(t, "full, one more", 5, whole, adding(5, 301, "more"), api.ErrForm)
	done(t, "one too few", 5, many(5, 299, 7), adding(5, 300, whole.Entries[299].Data), saying(api.OK), 5, whole, api.OK)
}

// P15.3: one request behind the other, some late, some twice.
func TestHandleInTurn(t *testing.T) {
	j, d := having(t, 0, api.Log{})
	ask(t, j,
		row{adding(1, 1, "x"), saying(api.ErrFence)},
		row{promising(3), sayingLog(api.Log{})},
		row{accepting(2, "x"), saying(api.ErrFence)},
		row{adding(3, 1, "x"), saying(api.ErrFence)},
		row{accepting(3, "x"), saying(api.OK)},
		row{adding(3, 2, "y"), saying(api.OK)},
		row{accepting(3, "x"), saying(api.OK)},
		row{accepting(3), saying(api.OK)},
		row{accepting(3, "x", "z"), saying(api.ErrGap)},
		row{promising(3), saying(api.ErrFence)},
		row{promising(5), sayingLog(logOf(3, "x", "y"))},
		row{adding(3, 3, "z"), saying(api.ErrFence)},
		row{accepting(3, "x", "y"), saying(api.ErrFence)},
		row{adding(5, 3, "z"), saying(api.ErrFence)},
		row{accepting(4, "x", "y"), saying(api.ErrFence)},
		row{accepting(5, "x", "y"), saying(api.OK)},
		row{adding(5, 3, "z"), saying(api.OK)},
		row{adding(5, 3, "z"), saying(api.OK)},
		row{promising(4), saying(api.ErrFence)},
		row{accepting(7), saying(api.OK)},
		row{adding(7, 2, "b"), saying(api.ErrGap)},
		row{adding(7, 1, "a"), saying(api.OK)},
		row{promising(8), sayingLog(logOf(7, "a"))})
	wantHaving(t, "at the end", j, d, 8, logOf(7, "a"))
}

// P15.3: what was left in the new files is gone, and what is put in its place is all of it.
func TestHandleNewFiles(t *testing.T) {
	for _, left := range []string{"", "left", promiseOf(9), bytesOf(logOf(9, "left"))} {
		d := holding(t, 1000, "log.new", left, "promise.new", left, "z", "other")
		j := opened(t, "left", d)
		wantAnswer(t, "p", j, promising(2), sayingLog(api.Log{}))
		wantFiles(t, "p", d, "log.new", left, "promise", promiseOf(2), "z", "other")
		wantAnswer(t, "a", j, accepting(2, "x"), saying(api.OK))
		wantFiles(t, "a", d, "log", bytesOf(logOf(2, "x")), "promise", promiseOf(2), "z", "other")
	}
	for what, x := range map[string]struct {
		log     api.Log
		request string
	}{
		"p": {logOf(5, "x"), promising(5)},
		"a": {logOf(5, "x"), accepting(4)},
		"w": {logOf(4, "x"), adding(5, 2, "y")},
	} {
		there := []string{"log", bytesOf(x.log), "log.new", "left", "promise", promiseOf(5), "promise.new", "left"}
		d := holding(t, 1000, there...)
		wantAnswer(t, what+", fenced", opened(t, what, d), x.request, saying(api.ErrFence))
		wantFiles(t, what+", fenced", d, there...)
	}
}
