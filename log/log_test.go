package log

import (
	"encoding/binary"
	"hash/crc32"
	"math"
	"reflect"
	"strconv"
	"strings"
	"testing"

	"tabularium/api"
	"tabularium/disk"
)

const greatest = 1<<53 - 1 // MaxNumber

// numbered: each number as bytes, by the library's own means.
func numbered(l ...int) string {
	var out []byte
	for _, n := range l {
		out = binary.AppendVarint(out, int64(n))
	}
	return string(out)
}

// sealing: the part, sealed, by the library's own means.
func sealing(part string) string {
	return numbered(len(part)) + part + string(binary.BigEndian.AppendUint32(nil, crc32.ChecksumIEEE([]byte(part))))
}

func entryPart(txid int, data string) string {
	return numbered(txid) + data
}

// partsOf: what the sealed parts of l hold, whether l is right or not.
func partsOf(l api.Log) []string {
	parts := []string{numbered(l.Epoch)}
	for _, x := range l.Entries {
		parts = append(parts, entryPart(x.Txid, x.Data))
	}
	return parts
}

// laid: the parts, each sealed, one behind the other.
func laid(parts ...string) string {
	var out strings.Builder
	for _, p := range parts {
		out.WriteString(sealing(p))
	}
	return out.String()
}

func bytesOf(l api.Log) string {
	return laid(partsOf(l)...)
}

// logOf: the log with that epoch, and an entry of each data, numbered from 1 on.
func logOf(epoch int, data ...string) api.Log {
	l := api.Log{Epoch: epoch}
	for i, s := range data {
		l.Entries = append(l.Entries, api.Entry{Txid: i + 1, Data: s})
	}
	return l
}

// many: a log of n entries, no two alike, each with size bytes of Data.
func many(epoch, n, size int) api.Log {
	l := api.Log{Epoch: epoch}
	for i := range n {
		data := strings.Repeat(strconv.Itoa(i+1)+".", size)[:size]
		l.Entries = append(l.Entries, api.Entry{Txid: i + 1, Data: data})
	}
	return l
}

// numberedFrom: entries with these numbers, whatever they are.
func numberedFrom(txids ...int) api.Log {
	l := api.Log{Epoch: 1}
	for _, n := range txids {
		l.Entries = append(l.Entries, api.Entry{Txid: n, Data: "d"})
	}
	return l
}

// rights: logs that are right, by what they are at an edge of.
func rights() map[string]api.Log {
	all := map[string]api.Log{
		"nothing at all":      {},
		"an empty list":       {Epoch: 1, Entries: []api.Entry{}},
		"one entry":           logOf(1, "x"),
		"three entries":       logOf(7, "ab", "", "\x00\xff"),
		"no byte":             logOf(2, ""),
		"no byte, twice":      logOf(2, "", ""),
		"alike but for Txid":  logOf(2, "d", "d", "d"),
		"599 bytes":           many(3, 2, 599),
		"600 bytes":           many(3, 2, 600),
		"63 and 64":           many(1, 64, 3),
		"one fewer":           many(4, 299, 5),
		"as many as may be":   many(4, 300, 5),
		"all that may be":     many(greatest, 300, 600),
		"as many of no bytes": many(0, 300, 0),
		"data like a part":    logOf(1, sealing(entryPart(2, "x")), sealing(entryPart(3, "y"))),
	}
	for _, n := range []int{0, 1, 63, 64, 8191, 8192, greatest - 1, greatest} {
		all["epoch "+strconv.Itoa(n)] = logOf(n, "x", "y")
		all["epoch "+strconv.Itoa(n)+" alone"] = logOf(n)
	}
	return all
}

// wrongs: logs that are not; each would be right but for one thing.
func wrongs() map[string]api.Log {
	all := map[string]api.Log{
		"one entry more":         many(4, 301, 5),
		"many more":              many(4, 1000, 0),
		"a first one of 0":       numberedFrom(0),
		"a first one of 2":       numberedFrom(2),
		"from 0 on":              numberedFrom(0, 1, 2),
		"from 2 on":              numberedFrom(2, 3, 4),
		"one less":               numberedFrom(1, 2, 2, 4),
		"one more":               numberedFrom(1, 2, 4, 4),
		"two alike":              numberedFrom(1, 1),
		"two alike at the end":   numberedFrom(1, 2, 3, 3),
		"one missing":            numberedFrom(1, 2, 4),
		"in another order":       numberedFrom(2, 1),
		"falling":                numberedFrom(3, 2, 1),
		"a Txid below 0":         numberedFrom(-1),
		"the least Txid":         numberedFrom(math.MinInt),
		"the greatest Txid":      numberedFrom(1, math.MaxInt),
		"a Txid of 1 and 2^32":   numberedFrom(1<<32 + 1),
		"601 bytes":              many(3, 1, 601),
		"601 bytes in the last":  logOf(3, "x", strings.Repeat("y", 601)),
		"601 bytes in the first": logOf(3, strings.Repeat("x", 601), "y"),
		"more than a text":       logOf(3, strings.Repeat("x", 5000)),
	}
	for _, n := range []int{-1, -2, math.MinInt, -greatest, greatest + 1, greatest + 2, math.MaxInt} {
		all["epoch "+strconv.Itoa(n)] = logOf(n, "x")
		all["epoch "+strconv.Itoa(n)+" alone"] = logOf(n)
	}
	return all
}

// same: whether two logs are, a list of nothing being nil or empty.
func same(a, b api.Log) bool {
	return a.Epoch == b.Epoch && (len(a.Entries) == 0 && len(b.Entries) == 0 || reflect.DeepEqual(a.Entries, b.Entries))
}

func want(t *testing.T, what string, got, e api.Errno) {
	t.Helper()
	if got != e {
		t.Errorf("%s: error %d, not %d", what, got, e)
	}
}

// P14.1: which logs are right.
func TestRight(t *testing.T) {
	for what, l := range rights() {
		if !Right(l) {
			t.Errorf("%s: not right", what)
		}
	}
	for what, l := range wrongs() {
		if Right(l) {
			t.Errorf("%s: right", what)
		}
	}
}

// P14.1, P2: the bytes of each, written otherwise; ErrArg and nothing, where a log is not right.
func TestBytes(t *testing.T) {
	for what, l := range rights() {
		if b, e := Bytes(l); b != bytesOf(l) || e != api.OK {
			t.Errorf("%s: %s, not %s, error %d", what, brief([]byte(b)), brief([]byte(bytesOf(l))), e)
		}
	}
	for what, l := range wrongs() {
		if b, e := Bytes(l); b != "" || e != api.ErrArg {
			t.Errorf("%s: %s, error %d", what, brief([]byte(b)), e)
		}
	}
}

// P14.1: some bytes, by hand.
func TestBytesByHand(t *testing.T) {
	for b, l := range map[string]api.Log{
		"\x02\x00\xd2\x02\xef\x8d":                                                             {},
		"\x02\x06\x3b\x61\x4a\xb8":                                                             logOf(3),
		"\x02\x06\x3b\x61\x4a\xb8\x04\x02x\x2d\x31\x89\x73":                                    logOf(3, "x"),
		"\x10\xfe\xff\xff\xff\xff\xff\xff\x1f\x4d\xe4\x3d\xfa":                                 logOf(greatest),
		"\x04\x80\x01\x0d\x5d\xba\x22\x02\x02\x3c\x0c\x8e\xa1\x06\x04\x00\xff\xd5\x4a\x9e\x43": logOf(64, "", "\x00\xff"),
	} {
		if got, e := Bytes(l); got != b || e != api.OK {
			t.Errorf("%v: % x, not % x, error %d", l, got, b, e)
		}
	}
	l := many(1, 300, 600)
	l.Entries[299].Data = strings.Repeat("d", 600)
	b, _ := Bytes(l)
	last := "\xb4\x09\xd8\x04" + strings.Repeat("d", 600) + "\x0c\x1e\xfa\x67"
	if !strings.HasSuffix(b, last) {
		t.Errorf("the last of 300: % x", b[len(b)-len(last):])
	}
}

// P14.1: no two logs that are unlike have the same bytes.
func TestBytesUnlike(t *testing.T) {
	seen := map[string]string{}
	for what, l := range rights() {
		b, _ := Bytes(l)
		if other, ok := seen[b]; ok && !same(l, rights()[other]) {
			t.Errorf("%s has the bytes of %s", what, other)
		}
		seen[b] = what
	}
}

// The chapter's example.
func TestExample(t *testing.T) {
	d := disk.New(1000)
	want(t, "Store", Store(d, "l", api.Log{Epoch: 3}), api.OK)
	want(t, "Add", Add(d, "l", api.Entry{Txid: 1, Data: "x"}), api.OK)
	wantLoad(t, "the example", d, "l", logOf(3, "x"), true)
}
