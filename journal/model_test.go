package journal

import (
	"encoding/binary"
	"fmt"
	"hash/crc32"
	"math"
	"math/rand/v2"
	"strings"
	"testing"

	"tabularium/api"
	"tabularium/disk"
)

// modelTake: the text at place at of b, and the place behind it; below 0, if there is none of up to 4000 bytes. It counts places, and asks the library for numbers.
func modelTake(b []byte, at int) (s string, end int) {
	size, n := binary.Varint(b[at:])
	if n <= 0 || size < 0 || size > 4000 || at+n+int(size) > len(b) || n != len(num(int(size))) {
		return "", -1
	}
	return string(b[at+n : at+n+int(size)]), at + n + int(size)
}

// modelSplit: the texts that are joined in b, if that is all of it.
func modelSplit(b string) (l []string, ok bool) {
	many, at := binary.Varint([]byte(b))
	if at <= 0 || many < 0 || many > 1000 || at != len(num(int(many))) {
		return nil, false
	}
	for range many {
		var s string
		if s, at = modelTake([]byte(b), at); at < 0 {
			return nil, false
		}
		l = append(l, s)
	}
	return l, at == len(b)
}

// modelNumber: the number that is all of s, if it is from least to most.
func modelNumber(s string, least, most int) (int, bool) {
	n, _ := binary.Varint([]byte(s))
	return int(n), num(int(n)) == s && int(n) >= least && int(n) <= most
}

// modelParts: what is sealed in b, up to the first part that is not.
func modelParts(b string) []string {
	var l []string
	for at := 0; ; {
		s, end := modelTake([]byte(b), at)
		if end < 0 || end+4 > len(b) || binary.BigEndian.Uint32([]byte(b[end:])) != crc32.ChecksumIEEE([]byte(s)) {
			return l
		}
		l, at = append(l, s), end+4
	}
}

// modelLog: the log at the beginning of b; false, if there is none.
func modelLog(b string) (l api.Log, ok bool) {
	parts := modelParts(b)
	if len(parts) == 0 {
		return api.Log{}, false
	}
	if l.Epoch, ok = modelNumber(parts[0], 0, greatest); !ok {
		return api.Log{}, false
	}
	for i, part := range parts[1:] {
		data, found := strings.CutPrefix(part, num(i+1))
		if !found || len(data) > 600 || i >= 300 {
			break
		}
		l.Entries = append(l.Entries, api.Entry{Txid: i + 1, Data: data})
	}
	return l, true
}

// modelTold: what the chapter says of these bytes.
func modelTold(answer string) (api.Log, api.Errno) {
	for e := api.OK; e <= api.ErrState; e++ {
		if answer == saying(e) {
			return api.Log{}, e
		}
	}
	texts, ok := modelSplit(answer)
	if !ok || len(texts) < 2 {
		return api.Log{}, api.ErrForm
	}
	l, ok := modelLog(strings.Join(texts[1:], ""))
	if !ok || answer != sayingLog(l) {
		return api.Log{}, api.ErrForm
	}
	return l, api.OK
}

// model does what a journal does by the disk's own calls, on a disk beside.
type model struct {
	d    *disk.Disk
	has  has
	dead bool
}

// put: the file is put in its place.
func (m *model) put(name, b string) api.Errno {
	fresh := name + ".new"
	if m.d.Down() {
		return api.ErrLost
	}
	if e := m.d.Delete(fresh); e != api.OK && e != api.ErrNone { // one that is not there burns no fuse
		return e
	}
	for _, call := range []func() api.Errno{
		func() api.Errno { return m.d.Append(fresh, b) },
		func() api.Errno { return m.d.Sync(fresh) },
		func() api.Errno { return m.d.Rename(fresh, name) },
	} {
		if e := call(); e != api.OK {
			return e
		}
	}
	return api.OK
}

func modelOpen(d *disk.Disk) (*model, api.Errno) {
	m := &model{d: d}
	b, e := d.Read("promise")
	if e == api.OK {
		parts, ok := modelParts(b), false
		if len(parts) > 0 {
			m.has.promised, ok = modelNumber(parts[0], 1, greatest)
		}
		if !ok || b != promiseOf(m.has.promised) {
			return nil, api.ErrForm
		}
	} else if e != api.ErrNone {
		return nil, e
	}
	b, e = d.Read("log")
	if e == api.ErrNone {
		return m, api.OK
	}
	l, ok := modelLog(b)
	if !ok {
		return nil, api.ErrForm
	}
	m.has.log = l
	if b != bytesOf(l) {
		e = m.put("log", bytesOf(l))
	}
	return m, e
}

// handle: the answer, the request being cut into texts first.
func (m *model) handle(request string) string {
	if m.dead {
		return saying(api.ErrLost)
	}
	texts, ok := modelSplit(request)
	if !ok || len(texts) < 2 {
		return saying(api.ErrForm)
	}
	epoch, ok := modelNumber(texts[1], 1, greatest)
	if !ok {
		return saying(api.ErrForm)
	}
	was := m.has.log
	e := api.ErrForm
	switch {
	case texts[0] == "p" && len(texts) == 2:
		e = m.promise(epoch)
		if e == api.OK {
			return sayingLog(was)
		}
	case texts[0] == "a" && modelRight(texts[2:]):
		e = m.accept(epoch, texts[2:])
	case texts[0] == "w" && len(texts) == 4 && modelRight(texts[3:]):
		if txid, ok := modelNumber(texts[2], 1, 300); ok {
			e = m.add(epoch, txid, texts[3])
		}
	}
	return saying(e)
}

// modelRight: may these be the Data of a log's entries?
func modelRight(data []string) bool {
	for _, s := range data {
		if len(s) > 600 {
			return false
		}
	}
	return len(data) <= 300
}

// of: the error, which kills the node if it is one.
func (m *model) of(e api.Errno) api.Errno {
	if e == api.OK {
		return e
	}
	m.dead, m.has = true, has{}
	return api.ErrLost
}

func (m *model) promise(epoch int) api.Errno {
	if epoch <= m.has.promised {
		return api.ErrFence
	}
	m.has.promised = epoch
	return m.of(m.put("promise", promiseOf(epoch)))
}

func (m *model) accept(epoch int, data []string) api.Errno {
	l := logOf(epoch, data...)
	switch {
	case epoch < m.has.promised:
		return api.ErrFence
	case epoch == m.has.log.Epoch && strings.HasPrefix(bytesOf(m.has.log), bytesOf(l)):
		return api.OK
	case epoch == m.has.log.Epoch:
		return api.ErrGap
	case epoch > m.has.promised:
		if e := m.promise(epoch); e != api.OK {
			return e
		}
	}
	m.has.log = l
	return m.of(m.put("log", bytesOf(l)))
}

func (m *model) add(epoch, txid int, data string) api.Errno {
	l := m.has.log
	there := len(l.Entries)
	switch {
	case epoch != m.has.promised || epoch != l.Epoch:
		return api.ErrFence
	case txid <= there && l.Entries[txid-1].Data == data:
		return api.OK
	case txid != there+1:
		return api.ErrGap
	}
	m.has.log = logOf(epoch, append(dataOf(l), data)...)
	_, e := m.d.Read("log")
	if e == api.OK {
		e = m.d.Append("log", sealing(num(txid)+data))
	}
	if e == api.OK {
		e = m.d.Sync("log")
	}
	return m.of(e)
}

// source tells numbers, by a script or by chance.
type source func(below int) int

func (next source) data() string {
	if next(15) == 0 {
		return strings.Repeat("D", 599+next(3))
	}
	return strings.Repeat(string(rune('a'+next(3))), next(4))
}

func (next source) epoch(now has) int {
	edges := []int{now.promised, now.promised, now.promised + 1, now.promised + 1, now.promised - 1, now.log.Epoch, now.log.Epoch, now.log.Epoch + 1, 0, 1, -1, greatest, greatest + 1, math.MinInt}
	if next(30) == 0 {
		return edges[next(len(edges))]
	}
	return edges[next(8)]
}

// request: one that a node in that state is asked, or bytes that look like one.
func (next source) request(now has) string {
	epoch, data := next.epoch(now), dataOf(now.log)
	var b string
	switch next(6) {
	case 0:
		b = promising(epoch)
	case 1, 2:
		data = data[:len(data)-next(min(len(data), 3)+1)]
		for range next(3) {
			data = append(data, next.data())
		}
		if next(100) == 0 {
			data = dataOf(many(1, 298+next(4), 2))
		}
		b = accepting(epoch, data...)
	default:
		txid := []int{len(data) + 1, len(data) + 1, len(data) + 1, len(data) + 1, len(data), len(data) - 1, len(data) + 2, 1, 0, -1, 300, 301, math.MaxInt}[next(13)]
		s := next.data()
		if txid >= 1 && txid <= len(data) && next(2) == 0 {
			s = data[txid-1]
		}
		b = adding(epoch, txid, s)
	}
	if next(12) > 0 {
		return b
	}
	at := next(len(b))
	return []string{b[:at], b + b[:at], b[:at] + string(rune(next(128))) + b[min(at+1, len(b)):], b[:at] + b[at+1:]}[next(4)]
}

// both are a journal and its model, each on a disk of its own.
type both struct {
	j *Journal
	d *disk.Disk
	m *model
}

// begin: both anew, on disks of some room.
func begin(t *testing.T, next source) both {
	t.Helper()
	room := []int{plenty, plenty, plenty, 60, 150, 700, 0}[next(7)]
	x := both{d: disk.New(room), m: &model{d: disk.New(room)}}
	x.j = opened(t, "anew", x.d)
	return x
}

// reopen: both are opened on the disks that they have; where that can't be, they begin anew.
func (x *both) reopen(t *testing.T, next source, tally map[string]int) {
	t.Helper()
	j, e := Open(x.d)
	m, f := modelOpen(x.m.d)
	tally[fmt.Sprint("Open ", e)]++
	if e != f || (j == nil) != (e != api.OK) {
		t.Fatalf("Open tells error %d, not %d", e, f)
	}
	x.wantSameFiles(t)
	if e != api.OK {
		*x = begin(t, next)
		return
	}
	x.j, x.m = j, m
}

func (x *both) wantSameFiles(t *testing.T) {
	t.Helper()
	if a, b := fmt.Sprintf("%q %v", files(x.d), x.d.Down()), fmt.Sprintf("%q %v", files(x.m.d), x.m.d.Down()); a != b {
		t.Fatalf("there are %s, not %s", brief(a), brief(b))
	}
}

// wantSame: both have the same, and so have their disks.
func (x *both) wantSame(t *testing.T) {
	t.Helper()
	x.wantSameFiles(t)
	if x.j.Promised() != x.m.has.promised || !same(x.j.Log(), x.m.has.log) || x.j.Dead() != x.m.dead {
		t.Fatalf("promised %d, %s, dead %v, not %s, dead %v", x.j.Promised(), brief(x.j.Log()), x.j.Dead(), brief(x.m.has), x.m.dead)
	}
}

// each does the same with both disks.
func (x *both) each(do func(d *disk.Disk)) {
	do(x.d)
	do(x.m.d)
}

// tamper: something becomes of the files that no journal does.
func (x *both) tamper(next source) {
	name := []string{"promise", "log", "log", "log", "promise.new", "log.new", "other"}[next(7)]
	b := next.data()
	if next(2) == 0 {
		b = sealing(num(next(4)) + next.data())
	}
	drop := next(3) == 0
	x.each(func(d *disk.Disk) {
		if drop {
			d.Delete(name)
		}
		d.Append(name, b)
	})
}

// play does as next says, with a journal and its model side by side; how often each answer came is counted.
func play(t *testing.T, next source, deeds int, tally map[string]int) {
	x := begin(t, next)
	for range deeds {
		switch next(24) {
		case 0, 1:
			n := next(9)
			x.each(func(d *disk.Disk) { d.Fuse(n) })
		case 2:
			keeps := []int{next(20), next(20), next(20), next(20)}
			x.each(func(d *disk.Disk) { d.Crash(keeps) })
		case 3, 4:
			x.reopen(t, next, tally)
		case 5:
			if next(4) == 0 {
				x.tamper(next)
			}
		default:
			request := next.request(x.m.has)
			got, want := x.j.Handle(request), x.m.handle(request)
			if got != want {
				t.Fatalf("%q is answered with %q, not %q", request, got, want)
			}
			_, e := Told(got)
			tally[fmt.Sprintf("%.1s %d", request[min(2, len(request)):], e)]++
		}
		x.wantSame(t)
	}
}

// P15.1 to P15.4, P2, P4: whatever is asked in whatever order, whenever the power goes.
func TestAgainstModel(t *testing.T) {
	r := rand.New(rand.NewPCG(15, 15))
	tally := map[string]int{}
	for range 1500 {
		play(t, r.IntN, 100, tally)
	}
	for _, kind := range []string{"p", "a", "w"} {
		for _, e := range []api.Errno{api.OK, api.ErrForm, api.ErrFence, api.ErrLost} {
			if n := tally[fmt.Sprint(kind, " ", int(e))]; n < 300 {
				t.Errorf("%s was answered with %d only %d times", kind, e, n)
			}
		}
	}
	for what, least := range map[string]int{"a 11": 300, "w 11": 300, "Open 0": 1000, "Open 2": 100, "Open 8": 5, "Open 12": 200} {
		if tally[what] < least {
			t.Errorf("too little was tried of %s: %v", what, tally)
		}
	}
}

// hold: Told and its model tell the same of these bytes.
func hold(t *testing.T, answer string) api.Errno {
	t.Helper()
	got, e := Told(answer)
	l, f := modelTold(answer)
	if !same(got, l) || e != f {
		t.Errorf("%q: Told tells %s, error %d, not %s, error %d", answer, brief(got), e, brief(l), f)
	}
	return e
}

// P15.1: many answers, and what became of their bytes.
func TestToldAgainstModel(t *testing.T) {
	r := rand.New(rand.NewPCG(15, 1))
	count := map[api.Errno]int{}
	for range 30000 {
		l := api.Log{Epoch: r.IntN(3) * r.IntN(200)}
		for range r.IntN(4) {
			l.Entries = append(l.Entries, api.Entry{Txid: len(l.Entries) + 1, Data: source(r.IntN).data()})
		}
		if r.IntN(200) == 0 {
			l = many(1, r.IntN(302), 30)
		}
		if n := len(l.Entries); n > 0 && r.IntN(8) == 0 {
			l.Entries[r.IntN(n)].Txid += 1 - 2*r.IntN(2)
		}
		b := []byte(sayingLog(l))
		switch r.IntN(4) {
		case 0:
			b = []byte(joining(append([]string{num(r.IntN(18) - 1)}, cutUp(bytesOf(l), 1+r.IntN(5000))[r.IntN(2):]...)...))
		case 1:
			b[r.IntN(len(b))] ^= 1 << r.IntN(8)
		}
		count[hold(t, string(b))]++
		if t.Failed() {
			return
		}
	}
	if count[api.OK] < 3000 || count[api.ErrForm] < 3000 || count[api.ErrFence] < 20 {
		t.Errorf("too little was tried: %v", count)
	}
}

// FuzzJournal: bytes as a request, as an answer, as both files; and deeds, with disks that fall.
func FuzzJournal(f *testing.F) {
	f.Add(promising(3), sayingLog(logOf(1, "x")), promiseOf(2), bytesOf(logOf(1, "x")), []byte{})
	f.Add(accepting(2, "x", "y"), saying(api.ErrFence), "", bytesOf(logOf(2))+"torn", []byte{9, 2, 0, 1, 9, 3, 1, 0, 0, 0, 2, 0, 1, 2, 3, 9, 9, 5, 4})
	f.Add(adding(2, 1, "x"), "", promiseOf(2), bytesOf(logOf(2)), []byte{})
	f.Fuzz(func(t *testing.T, request, answer, promise, log string, script []byte) {
		hold(t, answer)
		next := func(below int) int {
			if len(script) == 0 {
				return 0
			}
			n := int(script[0]) % below
			script = script[1:]
			return n
		}
		x := begin(t, func(int) int { return 0 })
		x.each(func(d *disk.Disk) {
			d.Append("promise", promise)
			d.Append("log", log)
		})
		x.reopen(t, next, map[string]int{})
		if got, want := x.j.Handle(request), x.m.handle(request); got != want {
			t.Fatalf("%q is answered with %q, not %q", request, got, want)
		}
		x.wantSame(t)
		play(t, next, min(len(script), 300)/3, map[string]int{})
	})
}
