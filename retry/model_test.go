package retry

import (
	"math"
	"math/rand/v2"
	"slices"
	"testing"

	"tabularium/api"
)

// deed is a Put as it was asked for.
type deed struct {
	edit   api.Edit
	answer api.Answer
	gone   bool // by a Forget
}

// model is a cache told otherwise: all that was ever put, in order; what is there is counted anew each time, from the newest on.
type model struct{ deeds []deed }

// there: the places in deeds of the last Put of each call that is there, the newest one first.
func (m *model) there() []int {
	var l []int
	for i := len(m.deeds) - 1; i >= 0 && len(l) < 20; i-- {
		e := m.deeds[i].edit
		newer := slices.ContainsFunc(l, func(k int) bool {
			return m.deeds[k].edit.Client == e.Client && m.deeds[k].edit.Call == e.Call
		})
		if !m.deeds[i].gone && !newer {
			l = append(l, i)
		}
	}
	return l
}

// settle marks what is gone for good: a call that is there no more does not come again when others are forgotten.
func (m *model) settle() {
	there := m.there()
	for i := range m.deeds {
		m.deeds[i].gone = !slices.Contains(there, i)
	}
}

func (m *model) find(client, call int) (deed, bool) {
	for _, i := range m.there() {
		if e := m.deeds[i].edit; e.Client == client && e.Call == call {
			return m.deeds[i], true
		}
	}
	return deed{}, false
}

// alike: are both the same edit, part by part?
func alike(a, b api.Edit) bool {
	return a.Kind == b.Kind && a.Path == b.Path && a.To == b.To && a.Client == b.Client && a.Call == b.Call && a.N == b.N && slices.Equal(a.Lengths, b.Lengths)
}

// right: of the kinds that anyEdit makes, by chapter 10's words.
func right(e api.Edit) bool {
	if e.Client < 0 || e.Client > 3 || e.Call < 0 || e.Call > greatest {
		return false
	}
	switch e.Kind {
	case api.MkDir:
		return e.To == "" && e.N == 0 && len(e.Lengths) == 0
	case api.Rename:
		return e.N == 0 && len(e.Lengths) == 0
	case api.SetQuota:
		return e.To == "" && e.N >= -1 && len(e.Lengths) == 0
	case api.AddBlock:
		return e.To == "" && e.N == 0 && len(e.Lengths) <= 8 && !slices.ContainsFunc(e.Lengths, func(n int) bool { return n < 0 })
	}
	return false
}

func (m *model) put(client, call int, e api.Edit, a api.Answer) api.Errno {
	if !right(e) || e.Client != client || e.Call != call {
		return api.ErrArg
	}
	if x, ok := m.find(client, call); ok && !alike(x.edit, e) {
		return api.ErrState
	}
	m.deeds = append(m.deeds, deed{edit: e, answer: a})
	m.settle()
	return api.OK
}

func (m *model) get(client, call int, e api.Edit) (api.Answer, bool, api.Errno) {
	x, ok := m.find(client, call)
	if !ok {
		return api.Answer{}, false, api.OK
	}
	if !alike(x.edit, e) {
		return api.Answer{}, false, api.ErrState
	}
	return x.answer, true, api.OK
}

func (m *model) forget(client, below int) {
	for i, x := range m.deeds {
		if x.edit.Client == client && x.edit.Call < below {
			m.deeds[i].gone = true
		}
	}
}

// numbered turns a byte into a call's number: mostly one of a few, seldom one at an edge.
func numbered(x byte) int {
	edges := []int{-1, greatest, greatest + 1, math.MinInt, math.MaxInt, 1<<32 + 1}
	if x >= 250 {
		return edges[x-250]
	}
	return int(x % 9)
}

// client turns a byte into one: seldom one that is none.
func client(x byte) int {
	if x >= 250 {
		return []int{-1, 4, 1 << 32, math.MinInt, math.MaxInt, 7}[x-250]
	}
	return int(x % 4)
}

// anyEdit turns a byte into an edit of that call: mostly the one that is always the same, seldom another one, or one that is not right.
func anyEdit(client, call int, x byte) api.Edit {
	e := api.Edit{Kind: api.MkDir, Path: "/a", Client: client, Call: call}
	if call%2 == 1 {
		e = api.Edit{Kind: api.AddBlock, Path: "/a", Client: client, Call: call, Lengths: []int{5, 0}}
	}
	if x < 200 {
		return e
	}
	switch x % 14 {
	case 0:
		e.Path = "/b"
	case 1:
		e.Kind = api.Rename
	case 2:
		e.Kind = api.SetQuota
	case 3:
		e.To = "/c"
	case 4:
		e.N = 1
	case 5:
		e.Lengths = append(e.Lengths, 0)
	case 6:
		e.Lengths = []int{5}
	case 7:
		e.Lengths = []int{5, -1}
	case 8:
		e.Client = (client + 1) % 4
	case 9:
		e.Call = (call + 2) % 9
	case 10:
		e.Kind = 0
	case 11:
		e.Lengths = []int{}
	case 12:
		e.Lengths = []int{0, 5}
	case 13:
		e.Lengths = make([]int, 9)
	}
	return e
}

// wantAlike: both tell the same of all calls of a few numbers.
func wantAlike(t *testing.T, c *Cache, m *model) {
	t.Helper()
	wantLen(t, c, len(m.there()))
	for client := range 4 {
		for call := range 9 {
			e := anyEdit(client, call, 0)
			if x, ok := m.find(client, call); ok {
				e = x.edit
			}
			a, ok, bad := m.get(client, call, e)
			wantGet(t, c, client, call, e, a, ok, bad)
		}
	}
}

// follow does one deed for each four bytes, with a cache and with a model, and holds what they answer against each other.
func follow(t *testing.T, deeds []byte) (told map[api.Errno]int) {
	c, m := New(), &model{}
	told = map[api.Errno]int{}
	for i := 0; i+3 < len(deeds); i += 4 {
		who, call := client(deeds[i+1]), numbered(deeds[i+2])
		e := anyEdit(who, call, deeds[i+3])
		switch what := deeds[i] % 16; {
		case what == 0:
			c.Forget(who, call)
			m.forget(who, call)
		case what < 5:
			a, ok, bad := m.get(who, call, e)
			wantGet(t, c, who, call, e, a, ok, bad)
		default:
			a := api.Answer{N: i, Names: []string{"a", string(rune(i))}, Node: api.Node{Blocks: []api.Block{{ID: i}}}}
			bad := m.put(who, call, e, a)
			want(t, "Put", c.Put(who, call, e, a), bad)
			told[bad]++
		}
		wantAlike(t, c, m)
		if t.Failed() {
			t.Fatalf("behind deed %d of %v", i/4, deeds[:i+4])
		}
	}
	return told
}

// P13.1, P13.2: a cache answers what the model does, deed by deed.
func TestAgainstModel(t *testing.T) {
	r := rand.New(rand.NewPCG(13, 13))
	told := map[api.Errno]int{}
	for range 60 {
		deeds := make([]byte, 4*(1+r.IntN(200)))
		for i := range deeds {
			deeds[i] = byte(r.Uint32())
		}
		for bad, n := range follow(t, deeds) {
			told[bad] += n
		}
	}
	if told[api.OK] < 1000 || told[api.ErrArg] < 300 || told[api.ErrState] < 100 {
		t.Errorf("too little was tried: %v", told)
	}
}

// P13.1: the same without Forget, so that calls go by their age alone.
func TestAgainstModelFull(t *testing.T) {
	r := rand.New(rand.NewPCG(13, 14))
	for range 30 {
		deeds := make([]byte, 4*(room+r.IntN(150)))
		for i := range deeds {
			deeds[i] = byte(r.IntN(200))
			if i%4 == 0 {
				deeds[i] = byte(2 + r.IntN(14))
			}
		}
		if told := follow(t, deeds); told[api.ErrArg] > 0 || told[api.ErrState] > 0 {
			t.Errorf("something was refused: %v", told)
		}
	}
}

func FuzzRetry(f *testing.F) {
	f.Add([]byte{5, 1, 7, 0, 1, 1, 7, 0, 5, 1, 7, 210, 0, 1, 8, 0})
	f.Add(slices.Repeat([]byte{5, 0, 0, 0, 5, 1, 1, 0, 5, 2, 2, 0, 5, 3, 3, 0, 5, 0, 4, 0, 5, 1, 5, 0, 5, 2, 6, 0}, 4))
	f.Fuzz(func(t *testing.T, deeds []byte) {
		follow(t, deeds[:min(len(deeds), 800)])
	})
}
