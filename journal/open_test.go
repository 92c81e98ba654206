package journal

import (
	"fmt"
	"slices"
	"strings"
	"testing"

	"tabularium/api"
	"tabularium/disk"
)

// promiseOf: the bytes of a promise, whether it may be one or not.
func promiseOf(epoch int) string { return sealing(num(epoch)) }

// P15.2: no file: nothing is promised, and the log is empty; none is made.
func TestOpenNothing(t *testing.T) {
	for _, room := range []int{-1, 0, 1000} {
		d := disk.New(room)
		wantNode(t, "no file", opened(t, "no file", d), 0, api.Log{})
		wantFiles(t, "no file", d)
	}
	d := holding(t, 1000, "Log", "x", "logs", "y", "promise.", "z", "promises", "")
	was := files(d)
	wantNode(t, "other files", opened(t, "other files", d), 0, api.Log{})
	wantFiles(t, "other files", d, was...)
}

// P15.2: what stands in the files, each alone and both together; nothing is written.
func TestOpen(t *testing.T) {
	for _, epoch := range rightEpochs() {
		d := holding(t, plenty, "promise", promiseOf(epoch))
		d.Fuse(1)
		wantNode(t, "promise alone", opened(t, "promise alone", d), epoch, api.Log{})
		wantFiles(t, "promise alone", d, "promise", promiseOf(epoch))
	}
	wantNode(t, "by hand", opened(t, "by hand", holding(t, 100, "promise", "\x02\x06\x3b\x61\x4a\xb8")), 3, api.Log{})
	for what, l := range rights() {
		d := holding(t, plenty, "log", bytesOf(l))
		d.Fuse(1)
		wantNode(t, what, opened(t, what, d), 0, l)
		wantFiles(t, what, d, "log", bytesOf(l))
		d = holding(t, plenty, "log", bytesOf(l), "promise", promiseOf(5))
		d.Fuse(1)
		wantNode(t, what, opened(t, what, d), 5, l)
		wantFiles(t, what, d, "log", bytesOf(l), "promise", promiseOf(5))
	}
}

// P15.2: what was left in the new files does not count, and stays.
func TestOpenNewFiles(t *testing.T) {
	for _, b := range []string{"", "torn", promiseOf(9), bytesOf(logOf(9, "new"))} {
		d := holding(t, 1000, "log.new", b, "promise.new", b)
		wantNode(t, "new ones alone", opened(t, "new ones alone", d), 0, api.Log{})
		wantFiles(t, "new ones alone", d, "log.new", b, "promise.new", b)
		d = holding(t, 1000, "log", bytesOf(logOf(2, "x")), "log.new", b, "promise", promiseOf(3), "promise.new", b)
		wantNode(t, "all", opened(t, "all", d), 3, logOf(2, "x"))
		wantFiles(t, "all", d, "log", bytesOf(logOf(2, "x")), "log.new", b, "promise", promiseOf(3), "promise.new", b)
	}
}

// P15.2: bytes that are not synced are read as all others.
func TestOpenNotSynced(t *testing.T) {
	d := disk.New(1000)
	want(t, "Append", d.Append("promise", promiseOf(3)), api.OK)
	want(t, "Append", d.Append("log", bytesOf(logOf(2, "x"))), api.OK)
	wantNode(t, "not synced", opened(t, "not synced", d), 3, logOf(2, "x"))
}

// noPromises: bytes that are none, by what is wrong with them.
func noPromises() map[string]string {
	good := promiseOf(3)
	all := map[string]string{
		"empty":               "",
		"no bytes sealed":     sealing(""),
		"not sealed":          num(3),
		"twice":               good + good,
		"more behind":         good + "\x00",
		"text behind":         good + "x",
		"an entry behind":     good + sealing(num(1)+"x"),
		"two entries behind":  good + sealing(num(1), num(2)),
		"two numbers":         sealing(num(3, 3)),
		"text in the part":    sealing(num(3) + "x"),
		"a longer number":     sealing("\x86\x00"),
		"no end of a number":  sealing("\x80"),
		"bytes ahead":         "\x00" + good,
		"the number as text":  sealing("3"),
		"a longer length":     "\x82\x00" + good[1:],
		"a log":               bytesOf(logOf(3, "x")),
		"as much as may be":   strings.Repeat("x", 400000),
		"sealed as can be":    sealing(strings.Repeat("x", 4000)),
		"much behind":         good + strings.Repeat("x", 1000),
		"a part too long":     num(4001) + strings.Repeat("x", 4001) + "\x00\x00\x00\x00",
		"a part that is long": sealing(num(3) + strings.Repeat("x", 600)),
	}
	for _, n := range wrongEpochs() {
		all[fmt.Sprint("the number ", n)] = promiseOf(n)
	}
	for _, n := range []int{1, 3, greatest} {
		b := promiseOf(n)
		for i := range b {
			all[fmt.Sprint(n, " up to ", i)] = b[:i]
			all[fmt.Sprint(n, " from ", i+1)] = b[i+1:]
		}
		for i := range len(b) * 8 {
			turned := []byte(b)
			turned[i/8] ^= 1 << (i % 8)
			all[fmt.Sprint(n, ", bit ", i)] = string(turned)
		}
	}
	return all
}

// P15.2: a promise that has not its form, whatever the log is: nothing is opened, and a log that is torn stays so.
func TestOpenNoPromise(t *testing.T) {
	for what, b := range noPromises() {
		d := holding(t, plenty, "promise", b)
		wantNoNode(t, what, d, api.ErrForm)
		wantFiles(t, what, d, "promise", b)
		for _, log := range []string{bytesOf(logOf(2, "x")), bytesOf(logOf(2, "x")) + "torn", "no log", ""} {
			d := holding(t, plenty, "log", log, "promise", b)
			d.Fuse(1)
			wantNoNode(t, what, d, api.ErrForm)
			wantFiles(t, what, d, "log", log, "promise", b)
		}
	}
}

// noLogs: bytes that do not begin as a log does.
func noLogs() map[string]string {
	rest := sealing(num(1) + "x")
	all := map[string]string{
		"empty":           "",
		"text":            "no log",
		"an entry alone":  rest,
		"a long number":   sealing("\x86\x00") + rest,
		"two numbers":     sealing(num(3, 3)) + rest,
		"epoch below 0":   sealing(num(-1)) + rest,
		"epoch too great": sealing(num(greatest+1)) + rest,
		"more in it":      sealing(num(3)+"x") + rest,
	}
	head := sealing(num(3))
	for i := range head {
		all[fmt.Sprint("up to ", i)] = head[:i]
		turned := []byte(head)
		turned[i] ^= 1
		all[fmt.Sprint("byte ", i, " turned")] = string(turned) + rest
	}
	return all
}

// P15.2: a log that has not its form, with a promise and without one.
func TestOpenNoLog(t *testing.T) {
	for what, b := range noLogs() {
		d := holding(t, 1000, "log", b)
		d.Fuse(1)
		wantNoNode(t, what, d, api.ErrForm)
		wantFiles(t, what, d, "log", b)
		d = holding(t, 1000, "log", b, "promise", promiseOf(3))
		d.Fuse(1)
		wantNoNode(t, what, d, api.ErrForm)
		wantFiles(t, what, d, "log", b, "promise", promiseOf(3))
	}
}

// torn: logs with something behind them that can't be read, by the log that is left.
func torn() map[string]api.Log {
	all := map[string]api.Log{}
	l := logOf(4, "ab", "", "c")
	b := bytesOf(l)
	for there := range 4 {
		head := bytesOf(logOf(4, dataOf(l)[:there]...))
		end := len(b)
		if there < 3 {
			end = len(bytesOf(logOf(4, dataOf(l)[:there+1]...)))
		}
		for i := len(head) + 1; i < end; i++ {
			all[b[:i]] = logOf(4, dataOf(l)[:there]...)
		}
		for _, behind := range []string{"\x00", "x", sealing(""), sealing(num(there) + "z"), sealing(num(there+2) + "z"), sealing(num(there+1) + strings.Repeat("z", 601)), sealing(num(4))} {
			if behind == sealing(num(4)) && there == 3 {
				continue // just the entry that may come
			}
			all[head+behind] = logOf(4, dataOf(l)[:there]...)
		}
	}
	full := many(greatest, 300, 10)
	all[bytesOf(full)+sealing(num(301))] = full
	all[bytesOf(full)+"x"] = full
	return all
}

// P15.2: a torn log is stored anew, and lasts; what is added then is read again.
func TestOpenTorn(t *testing.T) {
	for b, l := range torn() {
		for _, left := range []string{"", "left"} {
			what := fmt.Sprintf("%.40q", b)
			d := holding(t, plenty, "log", b, "promise", promiseOf(l.Epoch))
			if left != "" {
				put(t, d, "log.new", left)
			}
			j := opened(t, what, d)
			wantNode(t, what, j, l.Epoch, l)
			wantLasting(t, what, d, "log", bytesOf(l), "promise", promiseOf(l.Epoch))
			if n := len(l.Entries); n < 300 {
				wantAnswer(t, what, j, adding(l.Epoch, n+1, "new"), saying(api.OK))
				wantNode(t, what, opened(t, what, d), l.Epoch, logOf(l.Epoch, append(dataOf(l), "new")...))
			}
		}
	}
}

// P15.2: an error of storing it is told as it comes: no room, no place for one file more.
func TestOpenTornWithoutRoom(t *testing.T) {
	log := bytesOf(logOf(4, "x")) + "torn"
	for room := len(log); room < len(log)+len(log)-4; room++ {
		d := holding(t, room, "log", log)
		wantNoNode(t, "no room", d, api.ErrFull)
		wantFiles(t, "no room", d, "log", log)
	}
	d := holding(t, len(log)+len(log)-4, "log", log)
	wantNode(t, "just enough", opened(t, "just enough", d), 0, logOf(4, "x"))
	d = holding(t, len(log)+5, "log", log, "log.new", "left")
	wantNoNode(t, "no room, though some was left", d, api.ErrFull)
	d = holding(t, len(log)-4, "log", log[:len(log)-4])
	wantNode(t, "a whole one needs none", opened(t, "a whole one needs none", d), 0, logOf(4, "x"))
	d = holding(t, 10000, "log", log)
	for i := range 19 {
		put(t, d, fmt.Sprint("f", i), "f")
	}
	was := files(d)
	wantNoNode(t, "20 files", d, api.ErrLong)
	wantFiles(t, "20 files", d, was...)
}

// P15.2: without power ErrLost, whatever stands there.
func TestOpenWithoutPower(t *testing.T) {
	for _, there := range [][]string{{}, {"promise", "no promise"}, {"promise", promiseOf(3)}, {"log", "no log"}, {"log", bytesOf(logOf(2))}} {
		d := holding(t, 1000, append(there, "z", "z")...)
		d.Fuse(1)
		want(t, "the power goes", d.Sync("z"), api.ErrLost)
		wantNoNode(t, "no power", d, api.ErrLost)
		d.Crash(nil)
		wantFiles(t, "no power", d, append(there, "z", "z")...)
	}
}

// P15.2, P15.4: the power goes with each call of storing a torn log, and each number of bytes lasts: nothing is opened; behind the crash the same log is.
func TestOpenTornPower(t *testing.T) {
	l := logOf(4, "x", "yy")
	b := bytesOf(l) + "torn"
	for _, left := range []string{"", "left"} {
		calls := 3 // Append, Sync, Rename
		there := []string{"log", b, "promise", promiseOf(7)}
		if left != "" {
			calls = 4 // Delete ahead of them
			there = []string{"log", b, "log.new", left, "promise", promiseOf(7)}
		}
		for n := 1; n <= calls+1; n++ {
			for k := range len(bytesOf(l)) + 1 {
				what := fmt.Sprintf("call %d of %d, %d bytes last", n, calls, k)
				d := holding(t, plenty, there...)
				d.Fuse(n)
				if n > calls {
					wantNode(t, what, opened(t, what, d), 7, l)
					if d.Down() {
						t.Errorf("%s: there were more calls", what)
					}
					continue
				}
				wantNoNode(t, what, d, api.ErrLost)
				d.Crash(slices.Repeat([]int{k}, 20))
				if got, _ := d.Read("log"); got != b {
					t.Errorf("%s: the log is %q", what, got)
				}
				wantNode(t, what, opened(t, what, d), 7, l)
				wantLasting(t, what, d, "log", bytesOf(l), "promise", promiseOf(7))
			}
		}
	}
}
