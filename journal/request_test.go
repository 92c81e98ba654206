package journal

import (
	"fmt"
	"math"
	"strings"
	"testing"

	"tabularium/api"
)

// wrongEpochs: numbers that no node takes for an epoch.
func wrongEpochs() []int {
	return []int{0, -1, -2, -64, -greatest, math.MinInt, math.MinInt + 1, greatest + 1, greatest + 2, 1 << 60, math.MaxInt}
}

// rightEpochs: numbers that may be one, at their edges, and where they have a byte more.
func rightEpochs() []int {
	return []int{1, 2, 63, 64, 8191, 8192, greatest - 1, greatest}
}

// P15.1: some requests, by hand.
func TestRequestsByHand(t *testing.T) {
	accept, _ := Accept(64, []api.Entry{{Txid: 1, Data: "x"}, {Txid: 2}, {Txid: 3, Data: "\x00\xff"}})
	empty, _ := Accept(0, nil)
	add, _ := Add(1, api.Entry{Txid: 300, Data: "yz"})
	for got, b := range map[string]string{
		Promise(1):  "\x04\x02p\x02\x02",
		Promise(-1): "\x04\x02p\x02\x01",
		empty:       "\x04\x02a\x02\x00",
		accept:      "\x0a\x02a\x04\x80\x01\x02x\x00\x04\x00\xff",
		add:         "\x08\x02w\x02\x02\x04\xd8\x04\x04yz",
	} {
		if got != b {
			t.Errorf("% x, not % x", got, b)
		}
	}
}

// P15.1: any epoch.
func TestPromise(t *testing.T) {
	for _, n := range append(wrongEpochs(), rightEpochs()...) {
		if got := Promise(n); got != promising(n) {
			t.Errorf("%d: %q, not %q", n, got, promising(n))
		}
	}
}

// rights: logs that are right, by what they are at an edge of.
func rights() map[string]api.Log {
	all := map[string]api.Log{
		"nothing at all":      {},
		"an empty list":       {Epoch: 1, Entries: []api.Entry{}},
		"one entry":           logOf(1, "x"),
		"no byte":             logOf(2, ""),
		"three entries":       logOf(7, "ab", "", "\x00\xff"),
		"three alike":         logOf(7, "d", "d", "d"),
		"600 bytes":           many(3, 2, 600),
		"one fewer":           many(4, 299, 5),
		"as many as may be":   many(4, 300, 5),
		"as many of no bytes": many(4, 300, 0),
		"all that may be":     many(greatest, 300, 600),
	}
	for _, n := range rightEpochs() {
		all[fmt.Sprint("epoch ", n)] = logOf(n, "x", "y")
	}
	return all
}

// wrongs: logs that are not; each would be right but for one thing.
func wrongs() map[string]api.Log {
	numbers := func(l ...int) api.Log {
		out := api.Log{Epoch: 1}
		for _, n := range l {
			out.Entries = append(out.Entries, api.Entry{Txid: n, Data: "d"})
		}
		return out
	}
	all := map[string]api.Log{
		"one entry more":      many(4, 301, 5),
		"one more, no bytes":  many(4, 301, 0),
		"1000":                many(4, 1000, 0),
		"a first one of 0":    numbers(0),
		"a first one of 2":    numbers(2),
		"one less":            numbers(1, 2, 2, 4),
		"one more":            numbers(1, 2, 4, 4),
		"one missing":         numbers(1, 2, 4),
		"in another order":    numbers(2, 1),
		"the least Txid":      numbers(math.MinInt),
		"a Txid of 2^32 more": numbers(1<<32 + 1),
		"601 bytes":           many(3, 1, 601),
		"601 in the last one": logOf(3, "x", strings.Repeat("y", 601)),
		"more than a text":    logOf(3, strings.Repeat("x", 5000)),
	}
	for _, n := range wrongEpochs()[1:] { // 0 is a log's epoch
		all[fmt.Sprint("epoch ", n)] = logOf(n, "x")
		all[fmt.Sprint("epoch ", n, " alone")] = logOf(n)
	}
	return all
}

// P15.1: the request of each log that is right, also of epoch 0; ErrArg and nothing of the others.
func TestAccept(t *testing.T) {
	for what, l := range rights() {
		if got, e := Accept(l.Epoch, l.Entries); got != accepting(l.Epoch, dataOf(l)...) || e != api.OK {
			t.Errorf("%s: %s, error %d", what, brief([]byte(got)), e)
		}
	}
	for what, l := range wrongs() {
		if got, e := Accept(l.Epoch, l.Entries); got != "" || e != api.ErrArg {
			t.Errorf("%s: %s, error %d", what, brief([]byte(got)), e)
		}
	}
}

// P15.1: each Txid and each Data that may be, with whatever epoch.
func TestAdd(t *testing.T) {
	for _, epoch := range append(wrongEpochs(), rightEpochs()...) {
		for _, txid := range []int{1, 2, 63, 64, 299, api.MaxEdits} {
			for _, size := range []int{0, 1, 63, 64, 599, 600} {
				data := strings.Repeat("d", size)
				if got, e := Add(epoch, api.Entry{Txid: txid, Data: data}); got != adding(epoch, txid, data) || e != api.OK {
					t.Errorf("%d, %d, %d bytes: %q, error %d", epoch, txid, size, got, e)
				}
			}
		}
	}
}

// P15.1, P2: ErrArg and nothing of all other entries.
func TestAddWrong(t *testing.T) {
	long := strings.Repeat("d", 601)
	wrong := []api.Entry{{Txid: 1, Data: long}, {Txid: 300, Data: long}, {Txid: 0, Data: long}, {Txid: 1, Data: strings.Repeat("d", 5000)}}
	for _, n := range []int{0, -1, -300, math.MinInt, math.MinInt + 1, api.MaxEdits + 1, 1 << 32, 1<<32 + 1, greatest, math.MaxInt} {
		wrong = append(wrong, api.Entry{Txid: n}, api.Entry{Txid: n, Data: "d"})
	}
	for _, x := range wrong {
		for _, epoch := range []int{-1, 0, 1, greatest, math.MaxInt} {
			if got, e := Add(epoch, x); got != "" || e != api.ErrArg {
				t.Errorf("%d, %d bytes: %q, error %d", x.Txid, len(x.Data), got, e)
			}
		}
	}
}
