package quorum

import (
	"fmt"
	"math"
	"math/rand/v2"
	"slices"
	"strings"
	"testing"

	"tabularium/api"
	"tabularium/disk"
	"tabularium/journal"
)

// The model asks nodes and mail of its own by requests of its own, looks at the nodes instead of reading their answers, and counts a majority by taking two nodes off at a time.

// model is a quorum of the model: it is new, writes, or is over.
type model struct {
	w           world
	stage       string
	epoch, many int
}

func modelOf(w world) *model { return &model{w: w, stage: "new"} }

// modelFate: the fate of the i-th request.
func modelFate(fates []int, i int) string {
	c := 0
	if i < len(fates) {
		c = (fates[i]%5 + 5) % 5 // what is left, below 0 too
		if fates[i] < 0 {
			c = 4 - c
		}
	}
	return []string{"answered", "lost", "unheard", "twice", "late"}[c]
}

// spoken: how many nodes there are.
func (m *model) spoken() int { return min(len(m.w.js), 5) }

// most: do so many answers leave fewer nodes without one?
func (m *model) most(n int) bool { return n > m.spoken()-n }

// saying: the answer that has that error alone.
func saying(e api.Errno) string { return joining(num(int(e))) }

// ask asks each node for that, the first fate being the one at from: the logs of those that are heard with OK, as they were ahead of that; and what follows from these answers.
func (m *model) ask(request string, fates []int, from int) (logs []api.Log, e api.Errno) {
	e = api.ErrLost
	for i := range m.spoken() {
		fate := modelFate(fates, from+i)
		was := m.w.js[i].Log()
		answer := ""
		switch fate {
		case "late":
			m.w.m.Send(api.Message{To: i, Data: request})
		case "twice":
			answer = m.w.js[i].Handle(request)
			m.w.js[i].Handle(request)
		case "answered":
			answer = m.w.js[i].Handle(request)
		case "unheard":
			m.w.js[i].Handle(request)
		}
		switch {
		case answer == saying(api.ErrFence):
			e = api.ErrFence
		case answer == saying(api.ErrForm) || answer == saying(api.ErrGap) || answer == saying(api.ErrLost) || answer == "":
		default:
			logs = append(logs, was)
		}
	}
	if m.most(len(logs)) {
		e = api.OK
	}
	return logs, e
}

func (m *model) begin(epoch int, fates []int) ([]api.Entry, api.Errno) {
	if m.stage != "new" {
		return nil, api.ErrState
	}
	if epoch <= 0 || epoch > greatest {
		return nil, api.ErrArg
	}
	m.stage = "over"
	logs, e := m.ask(promising(epoch), fates, 0)
	if e != api.OK {
		return nil, e
	}
	best := logs[0]
	for _, l := range logs {
		if l.Epoch > best.Epoch || l.Epoch == best.Epoch && len(l.Entries) > len(best.Entries) {
			best = l
		}
	}
	var data []string
	for _, x := range best.Entries {
		data = append(data, x.Data)
	}
	if _, e = m.ask(accepting(epoch, data...), fates, m.spoken()); e != api.OK {
		return nil, e
	}
	m.stage, m.epoch, m.many = "writes", epoch, len(data)
	return best.Entries, api.OK
}

func (m *model) write(data string, fates []int) api.Errno {
	switch {
	case m.stage != "writes":
		return api.ErrState
	case len(data) > 600:
		return api.ErrArg
	case m.many == 300:
		return api.ErrLong
	}
	_, e := m.ask(adding(m.epoch, m.many+1, data), fates, 0)
	if e == api.OK {
		m.many++
	} else {
		m.stage, m.epoch, m.many = "over", 0, 0
	}
	return e
}

func (m *model) read(fates []int) ([]api.Entry, api.Errno) {
	var logs []api.Log
	for i := range m.spoken() {
		if f := modelFate(fates, i); (f == "answered" || f == "twice") && !m.w.js[i].Dead() {
			logs = append(logs, m.w.js[i].Log())
		}
	}
	if !m.most(len(logs)) {
		return nil, api.ErrLost
	}
	for _, x := range logs { // a majority of all has one Epoch alone, if any
		var l []api.Log
		for _, y := range logs {
			if y.Epoch == x.Epoch {
				l = append(l, y)
			}
		}
		if !m.most(len(l)) {
			continue
		}
		for k := api.MaxEdits; ; k-- { // with k of 0 all have as many
			long := slices.DeleteFunc(slices.Clone(l), func(y api.Log) bool { return len(y.Entries) < k })
			if m.most(len(long)) {
				return long[0].Entries[:k], api.OK
			}
		}
	}
	return nil, api.OK
}

// pick is where deeds take their choices from: bytes, and nothing but 0 behind their end.
type pick struct{ left []byte }

func (c *pick) below(n int) int {
	if len(c.left) == 0 {
		return 0
	}
	x := int(c.left[0])
	c.left = c.left[1:]
	return x % n
}

// fates: some, of which many are 0, so that not all is lost.
func (c *pick) fates() []int {
	var l []int
	for range c.below(12) {
		switch c.below(8) {
		case 0, 1, 2, 3, 4:
			l = append(l, 0)
		case 5, 6:
			l = append(l, c.below(5))
		default:
			l = append(l, []int{5, 6, 7, 8, 9, -1, -2, -3, -4, -5, -6, math.MinInt, math.MaxInt, math.MinInt + 1, 1 << 40, -1 << 40}[c.below(16)])
		}
	}
	return l
}

func (c *pick) data() string {
	if c.below(12) == 0 {
		return strings.Repeat("D", 599+c.below(4))
	}
	return strings.Repeat(string(rune('a'+c.below(3))), c.below(4))
}

// both are the program's world and the model's, and who writes in them.
type both struct {
	a, b   world
	qs     []*Quorum
	ms     []*model
	newest int // epoch
}

// each does the same in both worlds.
func (x *both) each(do func(w world)) {
	do(x.a)
	do(x.b)
}

// bothOf: two worlds alike, whose nodes have something or nothing.
func bothOf(t *testing.T, c *pick) *both {
	t.Helper()
	var all []has
	for range []int{3, 3, 3, 5, 1, 2, 4, 0, 6}[c.below(9)] {
		x := has{}
		if c.below(3) > 0 {
			x = at(1+c.below(3), many(c.below(4), 1+c.below(3))...)
		}
		if c.below(20) == 0 {
			x = at(1+c.below(2), many(297+c.below(4), 2)...)
		}
		all = append(all, x.after(max(x.epoch, c.below(6))))
	}
	return &both{a: worldOf(t, all...), b: worldOf(t, all...), newest: 3}
}

// epoch: one that fits or not.
func (x *both) epoch(c *pick) int {
	if c.below(12) == 0 {
		return []int{0, -1, greatest, greatest + 1, math.MinInt, math.MaxInt}[c.below(6)]
	}
	n := x.newest + 2 - c.below(3)
	x.newest = max(n, x.newest)
	return n
}

func same(l, k []api.Entry, e, f api.Errno) bool { return slices.Equal(l, k) && e == f }

// speak: one of those that write begins, writes or reads.
func (x *both) speak(t *testing.T, c *pick, tally map[string]int) {
	t.Helper()
	last := len(x.qs) - 1
	if last < 0 || c.below(6) == 0 || x.ms[last].stage == "over" && c.below(3) > 0 {
		x.qs, x.ms = append(x.qs, New(x.a.js, x.a.m)), append(x.ms, modelOf(x.b))
		x.begin(t, c, len(x.qs)-1, tally)
		return
	}
	i := last - c.below(min(3, len(x.qs)))*c.below(2)
	fates := c.fates()
	switch c.below(10) {
	case 0:
		x.begin(t, c, i, tally)
	case 1, 2:
		l, e := x.qs[i].Read(fates)
		k, f := x.ms[i].read(fates)
		tally[fmt.Sprint("Read ", f)]++
		tally["entries read"] += len(k)
		if !same(l, k, e, f) {
			t.Fatalf("Read(%v) answers %v, error %d, not %v, error %d", fates, l, e, k, f)
		}
	default:
		data := c.data()
		e, f := x.qs[i].Write(data, fates), x.ms[i].write(data, fates)
		tally[fmt.Sprint("Write ", f)]++
		if e != f {
			t.Fatalf("Write(%q, %v) answers error %d, not %d", data, fates, e, f)
		}
	}
}

func (x *both) begin(t *testing.T, c *pick, i int, tally map[string]int) {
	t.Helper()
	epoch, fates := x.epoch(c), c.fates()
	l, e := x.qs[i].Begin(epoch, fates)
	k, f := x.ms[i].begin(epoch, fates)
	tally[fmt.Sprint("Begin ", f)]++
	tally["entries found"] += len(k)
	if !same(l, k, e, f) {
		t.Fatalf("Begin(%d, %v) answers %v, error %d, not %v, error %d", epoch, fates, l, e, k, f)
	}
}

// mailed: something becomes of what is on its way.
func (x *both) mailed(c *pick) {
	many := x.a.m.Len()
	if many == 0 {
		return
	}
	i, kind := c.below(many), c.below(6)
	x.each(func(w world) {
		switch kind {
		case 0:
			w.m.Twin(i)
		case 1:
			w.m.Age(3)
		default:
			if m, ok := w.m.Take(i); ok && m.To < len(w.js) {
				w.js[m.To].Handle(m.Data)
			}
		}
	})
}

// fall: the power of a disk goes soon, or now; then the node is opened anew, or stays dead for some time.
func (x *both) fall(c *pick) {
	if len(x.a.js) == 0 {
		return
	}
	i, kind, n := c.below(len(x.a.js)), c.below(4), c.below(6)
	keeps := []int{c.below(30), c.below(30), c.below(30)}
	x.each(func(w world) {
		switch kind {
		case 0:
			w.ds[i].Fuse(n)
			return
		case 1:
			w.ds[i].Crash(keeps)
		}
		if j, e := journal.Open(w.ds[i]); e == api.OK {
			w.js[i] = j
		}
	})
}

// replace: another node, with less room or none, or one of the others, stands in the place of one.
func (x *both) replace(c *pick) {
	if len(x.a.js) == 0 {
		return
	}
	i, k, kind, room := c.below(len(x.a.js)), c.below(len(x.a.js)), c.below(3), []int{plenty, 300, 40, 0}[c.below(4)]
	x.each(func(w world) {
		if kind > 0 {
			w.js[i], w.js[k], w.ds[i], w.ds[k] = w.js[k], w.js[i], w.ds[k], w.ds[i]
			return
		}
		d := disk.New(room)
		if j, e := journal.Open(d); e == api.OK {
			w.js[i], w.ds[i] = j, d
		}
	})
}

// wantSame: all that can be seen is alike.
func (x *both) wantSame(t *testing.T) {
	t.Helper()
	if a, b := x.a.show(), x.b.show(); a != b {
		t.Fatalf("there is %s, not %s", a, b)
	}
	for i, q := range x.qs {
		if m := x.ms[i]; q.Epoch() != m.epoch || q.Many() != m.many {
			t.Fatalf("Epoch %d, Many %d, not %d, %d", q.Epoch(), q.Many(), m.epoch, m.many)
		}
	}
	for i, d := range x.a.ds {
		if d.Down() != x.b.ds[i].Down() || d.Used() != x.b.ds[i].Used() {
			t.Fatalf("disk %d: %d bytes, not %d", i, d.Used(), x.b.ds[i].Used())
		}
	}
}

// play does as the bytes say, in both worlds; how often each answer came is counted.
func play(t *testing.T, c *pick, tally map[string]int) {
	x := bothOf(t, c)
	for len(c.left) > 0 {
		switch c.below(16) {
		case 0, 1, 2:
			x.mailed(c)
		case 3, 4:
			x.fall(c)
		case 5:
			if c.below(4) == 0 {
				x.replace(c)
			}
		default:
			x.speak(t, c, tally)
		}
		x.wantSame(t)
	}
}

// bytesOf: n bytes by chance.
func bytesOf(r *rand.Rand, n int) []byte {
	l := make([]byte, n)
	for i := range l {
		l[i] = byte(r.Uint32())
	}
	return l
}

// P17.1 to P17.4, P2, P4: whatever is asked, in whatever order, whoever falls, and whatever becomes of the mail.
func TestAgainstModel(t *testing.T) {
	r := rand.New(rand.NewPCG(17, 17))
	tally := map[string]int{}
	for range 2000 {
		play(t, &pick{bytesOf(r, 400)}, tally)
	}
	for what, least := range map[string]int{
		"Begin 0": 2000, "Begin 1": 100, "Begin 10": 1000, "Begin 12": 1000, "Begin 14": 500, "entries found": 5000,
		"Write 0": 2000, "Write 1": 20, "Write 4": 20, "Write 10": 300, "Write 12": 300, "Write 14": 1000,
		"Read 0": 1000, "Read 12": 500, "entries read": 2000,
	} {
		if tally[what] < least {
			t.Errorf("too little was tried of %s: %v", what, tally)
		}
	}
}

// everyFates: all lists of n fates.
func everyFates(n int) [][]int {
	l := [][]int{nil}
	for range n {
		var next [][]int
		for _, x := range l {
			for f := range 5 {
				next = append(next, append(slices.Clone(x), f))
			}
		}
		l = next
	}
	return l
}

// twins: the same twice, one of them for the model.
func twins(t *testing.T, all []has) *both {
	t.Helper()
	x := &both{a: worldOf(t, all...), b: worldOf(t, all...)}
	x.qs, x.ms = []*Quorum{New(x.a.js, x.a.m)}, []*model{modelOf(x.b)}
	return x
}

// P17.2 to P17.4: all fates of Begin with up to two nodes, of what is taken with three, and of the write and the read behind it.
func TestEveryFate(t *testing.T) {
	worlds := [][]has{nil, {at(1, "a", "b")}, {at(1, "a"), at(2)}, {at(1, "a").after(7), at(1, "a", "b")}, {at(1, "a"), at(2, "b"), at(2, "c", "d")}, {at(1), has{}.after(6), at(1, "a")}}
	tried := 0
	for _, all := range worlds {
		n := len(all)
		for _, begin := range everyFates(min(2*n, 4)) {
			behind := append(begin, make([]int, n)...) // with three nodes the fates of all that take it, and one promise
			if n == 3 {
				behind = append(make([]int, 2), begin...)
			}
			for i, rest := range everyFates(min(n, 2)) {
				x := twins(t, all)
				l, e := x.qs[0].Begin(5, behind)
				k, f := x.ms[0].begin(5, behind)
				if !same(l, k, e, f) {
					t.Fatalf("%v, Begin(%v): %v, error %d, not %v, error %d", all, behind, l, e, k, f)
				}
				if e, f := x.qs[0].Write("x", rest), x.ms[0].write("x", rest); e != f {
					t.Fatalf("%v, Write(%v): error %d, not %d", all, rest, e, f)
				}
				l, e = x.qs[0].Read(rest[i%(len(rest)+1):])
				k, f = x.ms[0].read(rest[i%(len(rest)+1):])
				if !same(l, k, e, f) {
					t.Fatalf("%v, Read(%v): %v, error %d, not %v, error %d", all, rest, l, e, k, f)
				}
				x.wantSame(t)
				tried++
			}
		}
	}
	if tried != 1+25*5+4*625*25 {
		t.Errorf("%d were tried", tried)
	}
}

func FuzzQuorum(f *testing.F) {
	f.Add([]byte{0, 1, 1, 2, 2, 1, 2, 0, 1, 1, 0, 0, 9, 9, 9, 9, 12, 3, 0, 0, 5, 5, 5})
	f.Add([]byte{3, 9, 5, 0, 3, 3, 2, 1, 15, 1, 9, 8, 3, 4, 5, 14, 0, 7, 3, 4, 0, 0, 2, 3, 4, 1})
	f.Fuzz(func(t *testing.T, deeds []byte) {
		deeds = deeds[:min(len(deeds), 1000)]
		play(t, &pick{deeds}, map[string]int{})
		keep(t, &pick{deeds}, map[string]int{})
	})
}
