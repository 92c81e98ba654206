package log

import (
	"encoding/binary"
	"fmt"
	"hash/crc32"
	"math"
	"math/rand/v2"
	"strings"
	"testing"

	"tabularium/api"
	"tabularium/disk"
)

// modelRead: the number and the bytes behind it that stand in the part at the beginning of b, and how long it is; 0, if there is no such part. It counts places, and asks the library for numbers and sums.
func modelRead(b []byte) (n int, behind string, length int) {
	size, at := binary.Varint(b)
	if at <= 0 || size < 0 || size > 4000 || len(b) < at+int(size)+4 || string(b[:at]) != numbered(int(size)) {
		return 0, "", 0
	}
	part := b[at : at+int(size)]
	end := at + int(size) + 4
	if binary.BigEndian.Uint32(b[end-4:end]) != crc32.ChecksumIEEE(part) {
		return 0, "", 0
	}
	number, from := binary.Varint(part)
	if from <= 0 || string(part[:from]) != numbered(int(number)) {
		return 0, "", 0
	}
	return int(number), string(part[from:]), end
}

// modelLoad: what the chapter says of a file with these bytes.
func modelLoad(b string) (l api.Log, whole bool, e api.Errno) {
	epoch, behind, at := modelRead([]byte(b))
	if at == 0 || behind != "" || epoch < 0 || epoch > greatest {
		return api.Log{}, false, api.ErrForm
	}
	l.Epoch = epoch
	for txid := 1; txid <= 300; txid++ {
		n, data, length := modelRead([]byte(b[at:]))
		if length == 0 || n != txid || len(data) > 600 {
			break
		}
		l.Entries = append(l.Entries, api.Entry{Txid: n, Data: data})
		at += length
	}
	return l, at == len(b), api.OK
}

// modelRight: is a log right, entry by entry from its end?
func modelRight(l api.Log) bool {
	n := len(l.Entries)
	if uint64(l.Epoch) > greatest || n > 300 {
		return false
	}
	for ; n > 0; n-- {
		if x := l.Entries[n-1]; x.Txid != n || len(x.Data) > 600 {
			return false
		}
	}
	return true
}

// model does what a log does as a row of the disk's own calls, on a disk beside.
type model struct{ d *disk.Disk }

// run: the calls, one behind the other, until one tells an error.
func run(calls ...func() api.Errno) api.Errno {
	for _, call := range calls {
		if e := call(); e != api.OK {
			return e
		}
	}
	return api.OK
}

func (m model) store(name string, l api.Log) api.Errno {
	if !modelRight(l) || len(name) == 0 || len(name) > 16 {
		return api.ErrArg
	}
	fresh := name + ".new"
	drop := func() api.Errno {
		if _, e := m.d.Read(fresh); e == api.ErrLost {
			return e
		}
		if e := m.d.Delete(fresh); e != api.ErrNone { // one that is not there burns no fuse
			return e
		}
		return api.OK
	}
	return run(drop,
		func() api.Errno { return m.d.Append(fresh, bytesOf(l)) },
		func() api.Errno { return m.d.Sync(fresh) },
		func() api.Errno { return m.d.Rename(fresh, name) })
}

func (m model) add(name string, x api.Entry) api.Errno {
	if len(x.Data) > 600 || x.Txid < 1 || x.Txid > 300 || len(name) == 0 || len(name) > 16 {
		return api.ErrArg
	}
	return run(
		func() api.Errno { _, e := m.d.Read(name); return e },
		func() api.Errno { return m.d.Append(name, sealing(entryPart(x.Txid, x.Data))) },
		func() api.Errno { return m.d.Sync(name) })
}

func (m model) load(name string) (api.Log, bool, api.Errno) {
	b, e := m.d.Read(name)
	if e != api.OK {
		return api.Log{}, false, e
	}
	return modelLoad(b)
}

// hold: Load and its model tell the same of a file with these bytes; and what is told is what its Bytes are.
func hold(t *testing.T, b string) (whole bool, e api.Errno) {
	t.Helper()
	if len(b) > api.MaxFile {
		return false, api.ErrLong
	}
	got, whole, e := loaded(t, b)
	l, w, e1 := modelLoad(b)
	if !same(got, l) || whole != w || e != e1 {
		t.Errorf("%q: Load tells %s, %v, %d, not %s, %v, %d", b, brief(got), whole, e, brief(l), w, e1)
	}
	if e != api.OK {
		return whole, e
	}
	again, e2 := Bytes(got)
	if e2 != api.OK || !strings.HasPrefix(b, again) || whole != (again == b) || !Right(got) {
		t.Errorf("%q: what is told has the bytes %q, error %d, whole %v", b, again, e2, whole)
	}
	return whole, e
}

func modelNames() []string {
	return []string{"j", "j", "j", "j.new", "k", "j.new.new", "", strings.Repeat("n", 16), strings.Repeat("n", 17)}
}

// source tells numbers, by a script or by chance.
type source func(below int) int

func (next source) name() string {
	l := modelNames()
	return l[next(len(l))]
}

func (next source) data() string {
	if next(12) == 0 {
		return strings.Repeat("D", 599+next(3))
	}
	return strings.Repeat(string(rune('a'+next(26))), next(9))
}

func (next source) txid(there int) int {
	edges := []int{there + 1, there + 1, there + 1, there + 1, there, there + 2, 0, 1, 300, 301, -1, math.MinInt, math.MaxInt}
	return edges[next(len(edges))]
}

func (next source) log() api.Log {
	epochs := []int{0, 1, 2, 3, 64, greatest - 1, greatest, greatest + 1, -1, math.MinInt, math.MaxInt}
	l := api.Log{Epoch: epochs[next(len(epochs))]}
	for range next(4) {
		l.Entries = append(l.Entries, api.Entry{Txid: len(l.Entries) + 1, Data: next.data()})
	}
	switch n := len(l.Entries); {
	case n > 0 && next(6) == 0:
		l.Entries[next(n)].Txid += 1 - 2*next(2)
	case next(40) == 0:
		l.Entries = many(0, 298+next(4), 1).Entries
	}
	return l
}

// play does as source says, with logs and their model side by side; how often each error came of each call is told.
func play(t *testing.T, next source, deeds int, tally map[string]int) {
	room := []int{plenty, plenty, 200, 60, 1000, 0}[next(6)]
	d, m := disk.New(room), model{disk.New(room)}
	same := func(what string, got, e api.Errno) {
		tally[fmt.Sprint(what, " ", e)]++
		if got != e {
			t.Fatalf("%s: error %d, not %d", what, got, e)
		}
	}
	for range deeds {
		name := next.name()
		there, _, _ := m.load(name)
		switch next(12) {
		case 0, 1:
			l := next.log()
			same("Store", Store(d, name, l), m.store(name, l))
		case 2, 3, 4, 5, 6:
			x := api.Entry{Txid: next.txid(len(there.Entries)), Data: next.data()}
			same("Add", Add(d, name, x), m.add(name, x))
		case 7, 8:
			n := next(6)
			d.Fuse(n)
			m.d.Fuse(n)
		case 9, 10:
			keeps := []int{next(20), next(20), next(20), next(20)}
			d.Crash(keeps)
			m.d.Crash(keeps)
		case 11:
			b := next.data()
			if next(3) > 0 {
				b = sealing(entryPart(next.txid(len(there.Entries)), next.data()))
			}
			same("Append", d.Append(name, b), m.d.Append(name, b))
		}
		alike(t, d, m, tally)
	}
}

// alike: whether both disks hold the same, and Load tells what the model does.
func alike(t *testing.T, d *disk.Disk, m model, tally map[string]int) {
	t.Helper()
	if a, b := fmt.Sprint(files(d), d.Down()), fmt.Sprint(files(m.d), m.d.Down()); a != b {
		t.Fatalf("there are %s, not %s", a, b)
	}
	for _, name := range modelNames()[2:] {
		got, whole, e := Load(d, name)
		l, w, e1 := m.load(name)
		tally[fmt.Sprint("Load ", w, " ", e1)]++
		if !same(got, l) || whole != w || e != e1 {
			t.Fatalf("%q: Load tells %s, %v, %d, not %s, %v, %d", name, brief(got), whole, e, brief(l), w, e1)
		}
	}
}

// P14.1 to P14.4, P2, P4: whatever is done in whatever order, whenever the power goes.
func TestAgainstModel(t *testing.T) {
	r := rand.New(rand.NewPCG(14, 14))
	tally := map[string]int{}
	for range 1500 {
		play(t, r.IntN, 60, tally)
	}
	for what, least := range map[string]int{
		"Store 0": 500, "Store 1": 500, "Add 0": 500, "Add 1": 500, "Load true 0": 5000, "Load false 0": 500,
		fmt.Sprint("Store ", api.ErrLost): 200, fmt.Sprint("Store ", api.ErrFull): 200,
		fmt.Sprint("Add ", api.ErrLost): 200, fmt.Sprint("Add ", api.ErrNone): 200, fmt.Sprint("Add ", api.ErrFull): 50,
		fmt.Sprint("Load false ", api.ErrForm): 500, fmt.Sprint("Load false ", api.ErrNone): 500, fmt.Sprint("Load false ", api.ErrLost): 500,
	} {
		if tally[what] < least {
			t.Errorf("too little was tried of %s: %v", what, tally)
		}
	}
}

// turn: the bytes of l when something became of them.
func turn(r *rand.Rand, l api.Log) string {
	parts := partsOf(l)
	i := r.IntN(len(parts))
	part := []byte(parts[i])
	switch r.IntN(7) {
	case 0:
		parts[i] = parts[r.IntN(len(parts))]
	case 1:
		parts = append(parts, parts[i])
	case 2:
		part[r.IntN(len(part))] += byte(2 - 4*r.IntN(2))
		parts[i] = string(part)
	case 3:
		parts[i] = string(part[:r.IntN(len(part))])
	case 4:
		parts[i] += strings.Repeat("z", r.IntN(700))
	}
	b := []byte(laid(parts...))
	switch r.IntN(4) {
	case 0:
		b[r.IntN(len(b))] ^= 1 << r.IntN(8)
	case 1:
		b = b[:r.IntN(len(b)+1)]
	}
	return string(b)
}

// P14.3: many files, and what became of their bytes.
func TestLoadAgainstModel(t *testing.T) {
	r := rand.New(rand.NewPCG(14, 3))
	wholes, torn, none := 0, 0, 0
	for range 40000 {
		switch whole, e := hold(t, turn(r, source(r.IntN).log())); {
		case e != api.OK:
			none++
		case whole:
			wholes++
		default:
			torn++
		}
		if t.Failed() {
			return
		}
	}
	if wholes < 3000 || torn < 3000 || none < 3000 {
		t.Errorf("too little was tried: %d whole, %d torn, %d no logs", wholes, torn, none)
	}
}

// FuzzLog: bytes as they are, parts that are sealed rightly, and deeds, with disks that fall.
func FuzzLog(f *testing.F) {
	for _, l := range some() {
		f.Add(bytesOf(l), strings.Join(partsOf(l), "|"), []byte{})
	}
	f.Add("", "", []byte{0, 0, 0, 1, 3, 1, 5, 2, 0, 2, 0, 3, 4, 0, 7, 2, 0, 2, 0, 1, 0, 9, 5, 5})
	f.Fuzz(func(t *testing.T, b, parts string, script []byte) {
		hold(t, b)
		var l []string
		for _, p := range strings.Split(parts, "|") {
			l = append(l, p[:min(len(p), 4000)])
		}
		hold(t, laid(l...))
		next := func(below int) int {
			if len(script) == 0 {
				return 0
			}
			n := int(script[0]) % below
			script = script[1:]
			return n
		}
		play(t, next, min(len(script), 300)/3, map[string]int{})
	})
}
