package journal

import (
	"encoding/binary"
	"fmt"
	"hash/crc32"
	"reflect"
	"slices"
	"strings"
	"testing"

	"tabularium/api"
	"tabularium/disk"
)

const (
	greatest = 1<<53 - 1 // MaxNumber
	plenty   = 1 << 24   // room that no test fills
)

// num: each number as bytes, by the library's own means.
func num(l ...int) string {
	var out []byte
	for _, n := range l {
		out = binary.AppendVarint(out, int64(n))
	}
	return string(out)
}

// sealing: each part, sealed, by the library's own means.
func sealing(parts ...string) string {
	var out strings.Builder
	for _, part := range parts {
		out.WriteString(num(len(part)) + part)
		out.Write(binary.BigEndian.AppendUint32(nil, crc32.ChecksumIEEE([]byte(part))))
	}
	return out.String()
}

// joining: these texts, joined.
func joining(texts ...string) string {
	var out strings.Builder
	out.WriteString(num(len(texts)))
	for _, s := range texts {
		out.WriteString(num(len(s)) + s)
	}
	return out.String()
}

// bytesOf: the bytes of a log, whether it is right or not.
func bytesOf(l api.Log) string {
	parts := []string{num(l.Epoch)}
	for _, x := range l.Entries {
		parts = append(parts, num(x.Txid)+x.Data)
	}
	return sealing(parts...)
}

// logOf: the log of that epoch, with an entry of each data.
func logOf(epoch int, data ...string) api.Log {
	l := api.Log{Epoch: epoch}
	for i, s := range data {
		l.Entries = append(l.Entries, api.Entry{Txid: i + 1, Data: s})
	}
	return l
}

// many: the log of that epoch, with n entries of size bytes each, no two alike if there is room for that.
func many(epoch, n, size int) api.Log {
	l := api.Log{Epoch: epoch}
	for i := range n {
		l.Entries = append(l.Entries, api.Entry{Txid: i + 1, Data: strings.Repeat(fmt.Sprint(i+1, "."), size)[:size]})
	}
	return l
}

func dataOf(l api.Log) []string {
	var out []string
	for _, x := range l.Entries {
		out = append(out, x.Data)
	}
	return out
}

// promising, accepting, adding: requests, right or not.
func promising(epoch int) string { return joining("p", num(epoch)) }

func accepting(epoch int, data ...string) string {
	return joining(append([]string{"a", num(epoch)}, data...)...)
}

func adding(epoch, txid int, data string) string {
	return joining("w", num(epoch), num(txid), data)
}

// saying: the answer with that error alone.
func saying(e api.Errno) string { return joining(num(int(e))) }

// sayingLog: the answer that has that log.
func sayingLog(l api.Log) string {
	return joining(append([]string{num(0)}, cutUp(bytesOf(l), 4000)...)...)
}

// cutUp: b in pieces of that size, the last one as long as is left.
func cutUp(b string, size int) []string {
	var out []string
	for piece := range slices.Chunk([]byte(b), size) {
		out = append(out, string(piece))
	}
	return out
}

// brief: x as text, no longer than one cares to read.
func brief(x any) string {
	s := fmt.Sprintf("%+v", x)
	return s[:min(len(s), 300)]
}

// same: whether two logs are, a list of nothing being nil or empty.
func same(a, b api.Log) bool {
	return a.Epoch == b.Epoch && (len(a.Entries) == 0 && len(b.Entries) == 0 || reflect.DeepEqual(a.Entries, b.Entries))
}

func want(t *testing.T, what string, got, e api.Errno) {
	t.Helper()
	if got != e {
		t.Errorf("%s: error %d, not %d", what, got, e)
	}
}

// put: the file has these bytes, and all of them are synced.
func put(t *testing.T, d *disk.Disk, name, b string) {
	t.Helper()
	d.Delete(name)
	want(t, "Append", d.Append(name, b), api.OK)
	want(t, "Sync", d.Sync(name), api.OK)
}

// holding: a disk of that room with these files, names and bytes by turns.
func holding(t *testing.T, room int, files ...string) *disk.Disk {
	t.Helper()
	d := disk.New(room)
	for i := 0; i < len(files); i += 2 {
		put(t, d, files[i], files[i+1])
	}
	return d
}

// files: names and bytes of all files, by turns.
func files(d *disk.Disk) []string {
	var out []string
	for _, name := range d.List() {
		b, _ := d.Read(name)
		out = append(out, name, b)
	}
	return out
}

func wantFiles(t *testing.T, what string, d *disk.Disk, l ...string) {
	t.Helper()
	if got := files(d); !slices.Equal(got, l) {
		t.Errorf("%s: there are %s, not %s", what, brief(fmt.Sprintf("%q", got)), brief(fmt.Sprintf("%q", l)))
	}
}

// wantLasting: these files are there, and still so when all is lost that is not synced.
func wantLasting(t *testing.T, what string, d *disk.Disk, l ...string) {
	t.Helper()
	wantFiles(t, what, d, l...)
	d.Crash(nil)
	wantFiles(t, what+", behind a crash", d, l...)
}

// opened: the node that stands on d.
func opened(t *testing.T, what string, d *disk.Disk) *Journal {
	t.Helper()
	j, e := Open(d)
	if j == nil || e != api.OK {
		t.Fatalf("%s: Open tells error %d", what, e)
	}
	return j
}

// wantNoNode: nothing can be opened there.
func wantNoNode(t *testing.T, what string, d *disk.Disk, want api.Errno) {
	t.Helper()
	if j, e := Open(d); j != nil || e != want {
		t.Errorf("%s: Open tells %s, error %d, not %d", what, brief(j), e, want)
	}
}

// wantNode: j has promised that, and has that log.
func wantNode(t *testing.T, what string, j *Journal, promised int, l api.Log) {
	t.Helper()
	if j.Promised() != promised || !same(j.Log(), l) || j.Dead() {
		t.Errorf("%s: promised %d, not %d; %s, not %s; dead %v", what, j.Promised(), promised, brief(j.Log()), brief(l), j.Dead())
	}
}

// wantDead: j is dead, and answers ErrLost to whatever it is asked, and nothing changes.
func wantDead(t *testing.T, what string, j *Journal, d *disk.Disk) {
	t.Helper()
	was := files(d)
	for _, request := range []string{promising(greatest), accepting(greatest), accepting(1), adding(1, 1, "x"), promising(0), "", "no request"} {
		wantAnswer(t, what+", dead", j, request, saying(api.ErrLost))
		if !j.Dead() || j.Promised() != 0 || !same(j.Log(), api.Log{}) {
			t.Errorf("%s: dead %v, promised %d, %s", what, j.Dead(), j.Promised(), brief(j.Log()))
		}
	}
	if !slices.Equal(files(d), was) {
		t.Errorf("%s: a dead node changed the disk", what)
	}
}

func wantAnswer(t *testing.T, what string, j *Journal, request, answer string) {
	t.Helper()
	if got := j.Handle(request); got != answer {
		t.Errorf("%s: the answer is %s, not %s", what, brief(fmt.Sprintf("%q", got)), brief(fmt.Sprintf("%q", answer)))
	}
}

// row: a request, and the answer to it.
type row struct{ request, answer string }

// ask: one request behind the other, each with its answer.
func ask(t *testing.T, j *Journal, rows ...row) {
	t.Helper()
	for i, r := range rows {
		wantAnswer(t, fmt.Sprint("request ", i), j, r.request, r.answer)
	}
}

// The chapter's first example.
func TestExamplePromise(t *testing.T) {
	j := opened(t, "no file", disk.New(1000))
	ask(t, j,
		row{promising(1), sayingLog(api.Log{})},
		row{promising(1), saying(api.ErrFence)},
		row{adding(1, 1, "x"), saying(api.ErrFence)})
	wantNode(t, "the example", j, 1, api.Log{})
}

// The chapter's second example.
func TestExampleAccept(t *testing.T) {
	j := opened(t, "no file", disk.New(1000))
	ask(t, j,
		row{accepting(1), saying(api.OK)},
		row{adding(1, 1, "x"), saying(api.OK)},
		row{adding(1, 3, "y"), saying(api.ErrGap)})
	wantNode(t, "the example", j, 1, logOf(1, "x"))
}
