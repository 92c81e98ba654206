package retry

import (
	"fmt"
	"math"
	"slices"
	"strconv"
	"strings"
	"testing"

	"tabularium/api"
)

const (
	greatest = 1<<53 - 1 // MaxNumber
	room     = 20        // MaxCalls
	far      = 1 << 40   // from this number on there are calls that only fill a cache up
)

// of: an edit of that call.
func of(client, call int) api.Edit {
	return api.Edit{Kind: api.MkDir, Path: "/a", Client: client, Call: call}
}

// block: one that call asks for, with Lengths.
func block(client, call int, lengths ...int) api.Edit {
	return api.Edit{Kind: api.AddBlock, Path: "/f", Client: client, Call: call, Lengths: lengths}
}

func number(n int) api.Answer { return api.Answer{N: n} }

// run: edits of so many calls of client, from number first on.
func run(client, first, many int) []api.Edit {
	var l []api.Edit
	for i := range many {
		l = append(l, of(client, first+i))
	}
	return l
}

// mixed: edits of so many calls, of all clients by turns, whose numbers fall.
func mixed(many int) []api.Edit {
	var l []api.Edit
	for i := range many {
		l = append(l, of(i%4, 1000-i/4))
	}
	return l
}

func want(t *testing.T, what string, got, e api.Errno) {
	t.Helper()
	if got != e {
		t.Errorf("%s: error %d, not %d", what, got, e)
	}
}

func wantLen(t *testing.T, c *Cache, n int) {
	t.Helper()
	if got := c.Len(); got != n {
		t.Errorf("Len() = %d, not %d", got, n)
	}
}

// put puts e, under the client and the call that it has itself.
func put(t *testing.T, c *Cache, e api.Edit, a api.Answer) {
	t.Helper()
	want(t, "Put", c.Put(e.Client, e.Call, e, a), api.OK)
}

// filled: a cache with the calls of l, put in order; the answer of each is its own number in l.
func filled(t *testing.T, l ...api.Edit) *Cache {
	t.Helper()
	c := New()
	for i, e := range l {
		put(t, c, e, number(i))
	}
	return c
}

// same: are both answers alike? A list of nothing is one, nil or not.
func same(a, b api.Answer) bool {
	return a.Err == b.Err && a.Block == b.Block && slices.Equal(a.Names, b.Names) && a.N == b.N &&
		a.Node.Path == b.Node.Path && a.Node.Dir == b.Node.Dir && a.Node.Quota == b.Node.Quota &&
		slices.Equal(a.Node.Blocks, b.Node.Blocks) && a.Node.Writer == b.Node.Writer
}

// short: how x is shown, and no more of it than can be read.
func short(x any) string {
	s := fmt.Sprint(x)
	return s[:min(len(s), 200)]
}

func wantGet(t *testing.T, c *Cache, client, call int, e api.Edit, a api.Answer, ok bool, bad api.Errno) {
	t.Helper()
	got, there, told := c.Get(client, call, e)
	if !same(got, a) || there != ok || told != bad {
		t.Errorf("Get(%d, %d, %s) = %s, %v, %d, not %s, %v, %d", client, call, short(e), short(got), there, told, short(a), ok, bad)
	}
}

// wantThere: the call of e is there with e and a.
func wantThere(t *testing.T, c *Cache, e api.Edit, a api.Answer) {
	t.Helper()
	wantGet(t, c, e.Client, e.Call, e, a, true, api.OK)
}

// wantGone: the call of e is not there.
func wantGone(t *testing.T, c *Cache, e api.Edit) {
	t.Helper()
	wantGet(t, c, e.Client, e.Call, e, api.Answer{}, false, api.OK)
}

// wantState: Get tells that the call is there with another edit than e.
func wantState(t *testing.T, c *Cache, client, call int, e api.Edit) {
	t.Helper()
	wantGet(t, c, client, call, e, api.Answer{}, false, api.ErrState)
}

// wantOrder: the calls of l, and no others, are there, the oldest one first. It fills the cache up until they are all gone, as nothing else tells their order.
func wantOrder(t *testing.T, c *Cache, l ...api.Edit) {
	t.Helper()
	wantLen(t, c, len(l))
	for i := len(l); i < 2*room; i++ {
		put(t, c, of(i%4, far+i), number(-i))
		gone := max(0, min(i+1-room, len(l)))
		for _, e := range l[:gone] {
			wantGone(t, c, e)
		}
		for _, e := range l[gone:] {
			if _, ok, _ := c.Get(e.Client, e.Call, e); !ok {
				t.Errorf("with %d more, the call %d of %d is gone", i+1-len(l), e.Call, e.Client)
			}
		}
		wantLen(t, c, min(i+1, room))
	}
}

// P13.1: a new cache has no calls, and answers so.
func TestNew(t *testing.T) {
	c := New()
	wantLen(t, c, 0)
	for _, n := range []int{math.MinInt, -1, 0, 1, 3, 4, greatest, math.MaxInt} {
		for _, m := range []int{math.MinInt, -1, 0, 1, 3, 4, greatest, math.MaxInt} {
			wantGet(t, c, n, m, of(n, m), api.Answer{}, false, api.OK)
			wantGet(t, c, n, m, api.Edit{}, api.Answer{}, false, api.OK)
			c.Forget(n, m)
		}
	}
	wantLen(t, c, 0)
	wantOrder(t, c)
}

// P13.1: what one cache has another one has not.
func TestNewIsItsOwn(t *testing.T) {
	c, other := New(), New()
	put(t, c, of(1, 7), number(1))
	wantGone(t, other, of(1, 7))
	wantLen(t, other, 0)
	put(t, other, block(1, 7, 5), number(2))
	other.Forget(1, 7)
	c.Forget(1, 7)
	wantThere(t, c, of(1, 7), number(1))
	wantThere(t, other, block(1, 7, 5), number(2))
	c.Forget(1, 8)
	wantLen(t, c, 0)
	wantThere(t, other, block(1, 7, 5), number(2))
}

// P13.1, P13.2: the chapter's example.
func TestExample(t *testing.T) {
	c := New()
	e, a := of(1, 7), api.Answer{Err: api.ErrExist, N: 3}
	want(t, "Put", c.Put(1, 7, e, a), api.OK)
	wantGet(t, c, 1, 7, e, a, true, api.OK)
	other := e
	other.Path = "/b"
	wantGet(t, c, 1, 7, other, api.Answer{}, false, api.ErrState)
	wantGet(t, c, 1, 8, e, api.Answer{}, false, api.OK)
	wantLen(t, c, 1)
}

// P13.1: calls are told apart by their client and by their number, at the edges of both.
func TestToldApart(t *testing.T) {
	c := New()
	var all []api.Edit
	for client := range 4 {
		for _, call := range []int{0, 1, 2, greatest - 1, greatest} {
			all = append(all, of(client, call))
		}
	}
	for i, e := range all {
		wantGone(t, c, e)
		put(t, c, e, number(i))
		wantLen(t, c, i+1)
	}
	for i, e := range all {
		wantThere(t, c, e, number(i))
	}
	wantOrder(t, c, all...)
}

// wrongs: edits of client 1 and call 7, but where that is what is wrong, that are not right.
func wrongs() map[string]api.Edit {
	long := strings.Repeat("p", 121)
	all := map[string]api.Edit{
		"nothing":                 {},
		"no kind":                 {Kind: 0, Path: "/a", Client: 1, Call: 7},
		"a kind behind the last":  {Kind: 11, Path: "/a", Client: 1, Call: 7},
		"a path that is too long": {Kind: api.MkDir, Path: long, Client: 1, Call: 7},
		"a to that is too long":   {Kind: api.Rename, Path: "/a", To: long, Client: 1, Call: 7},
		"a to of MkDir":           {Kind: api.MkDir, Path: "/a", To: "/b", Client: 1, Call: 7},
		"an n of MkDir":           {Kind: api.MkDir, Path: "/a", N: 1, Client: 1, Call: 7},
		"an n below that":         {Kind: api.SetQuota, Path: "/a", N: -2, Client: 1, Call: 7},
		"lengths of MkDir":        {Kind: api.MkDir, Path: "/a", Client: 1, Call: 7, Lengths: []int{0}},
		"a length below 0":        block(1, 7, 1, -1),
		"a length that is great":  block(1, 7, greatest+1),
		"many lengths":            block(1, 7, 0, 0, 0, 0, 0, 0, 0, 0, 0),
	}
	for _, n := range []int{-1, 4, math.MinInt, math.MaxInt, 1<<32 + 1} {
		all["client "+strconv.Itoa(n)] = of(n, 7)
	}
	for _, n := range []int{-1, greatest + 1, math.MinInt, math.MaxInt} {
		all["call "+strconv.Itoa(n)] = of(1, n)
	}
	return all
}

// P13.1: an edit that is not right is refused, whether its call is there or not, and nothing changes.
func TestPutNotRight(t *testing.T) {
	for what, e := range wrongs() {
		for _, there := range []bool{false, true} {
			l := []api.Edit{of(0, 7), of(1, 8)}
			if there {
				l = append([]api.Edit{of(1, 7)}, l...)
			}
			c := filled(t, l...)
			want(t, what, c.Put(e.Client, e.Call, e, number(99)), api.ErrArg)
			want(t, what, c.Put(1, 7, e, number(99)), api.ErrArg)
			for i, x := range l {
				wantThere(t, c, x, number(i))
			}
			if !there {
				wantGone(t, c, of(1, 7))
			}
			wantOrder(t, c, l...)
		}
	}
}

// P13.1: an edit of another client, or of another call, is refused, and nothing changes: neither at the call that is named nor at the one that the edit has.
func TestPutOfAnother(t *testing.T) {
	l := []api.Edit{of(1, 7), of(2, 7), of(1, 8)}
	for _, p := range [][2]int{{0, 7}, {2, 7}, {3, 7}, {-1, 7}, {4, 7}, {math.MinInt, 7}, {math.MaxInt, 7}, {1<<32 + 1, 7}, {1, 6}, {1, 8}, {1, 0}, {1, -7}, {1, 1<<32 + 7}, {1, math.MinInt}, {1, math.MaxInt}, {7, 1}, {2, 8}, {0, 0}} {
		for _, e := range []api.Edit{of(1, 7), block(1, 7, 5)} {
			c := filled(t, l...)
			want(t, "Put", c.Put(p[0], p[1], e, number(99)), api.ErrArg)
			for i, x := range l {
				wantThere(t, c, x, number(i))
			}
			wantOrder(t, c, l...)
			c = New()
			want(t, "Put", c.Put(p[0], p[1], e, number(99)), api.ErrArg)
			wantGone(t, c, e)
			wantGet(t, c, p[0], p[1], e, api.Answer{}, false, api.OK)
			wantOrder(t, c)
		}
	}
}

// others: for each edit, some that are unlike it in one of its parts, and right.
func others() map[*api.Edit][]api.Edit {
	with := func(e api.Edit, change func(e *api.Edit)) api.Edit {
		change(&e)
		return e
	}
	dir := of(1, 7)
	rename := api.Edit{Kind: api.Rename, Path: "/a", To: "/b", Client: 1, Call: 7}
	quota := api.Edit{Kind: api.SetQuota, Path: "/a", N: 3, Client: 1, Call: 7}
	lengths, none, one, eight := block(1, 7, 5, 0, 64), block(1, 7), block(1, 7, 0), block(1, 7, 1, 2, 3, 4, 5, 6, 7, 8)
	return map[*api.Edit][]api.Edit{
		&dir: {
			with(dir, func(e *api.Edit) { e.Kind = api.Create }),
			with(dir, func(e *api.Edit) { e.Kind = api.Rename }),
			with(dir, func(e *api.Edit) { e.Kind = api.AddBlock }),
			with(dir, func(e *api.Edit) { e.Path = "" }),
			with(dir, func(e *api.Edit) { e.Path = "/" }),
			with(dir, func(e *api.Edit) { e.Path = "/a/" }),
			with(dir, func(e *api.Edit) { e.Path = "/A" }),
			with(dir, func(e *api.Edit) { e.Path = "/a\x00" }),
		},
		&rename: {
			with(rename, func(e *api.Edit) { e.To = "" }),
			with(rename, func(e *api.Edit) { e.To = "/c" }),
			with(rename, func(e *api.Edit) { e.Path, e.To = "/b", "/a" }),
			with(rename, func(e *api.Edit) { e.Path, e.To = "/a/b", "" }),
			with(rename, func(e *api.Edit) { e.Path, e.To = "", "/a/b" }),
		},
		&quota: {
			with(quota, func(e *api.Edit) { e.N = 4 }),
			with(quota, func(e *api.Edit) { e.N = 0 }),
			with(quota, func(e *api.Edit) { e.N = -1 }),
			with(quota, func(e *api.Edit) { e.N = greatest }),
			with(quota, func(e *api.Edit) { e.Kind = api.Renew }),
		},
		&lengths: {
			none, one, eight, block(1, 7, 5, 0), block(1, 7, 5, 0, 64, 0), block(1, 7, 0, 5, 64), block(1, 7, 5, 0, 63), block(1, 7, 6, 0, 64), block(1, 7, 5, 1, 64), block(1, 7, 5),
			with(lengths, func(e *api.Edit) { e.Kind = api.Complete }),
		},
		&none:  {one, block(1, 7, 0, 0), lengths, eight},
		&one:   {none, block(1, 7, 0, 0), block(1, 7, 1), block(1, 7, greatest)},
		&eight: {none, block(1, 7, 1, 2, 3, 4, 5, 6, 7), block(1, 7, 1, 2, 3, 4, 5, 6, 7, 9), block(1, 7, 8, 7, 6, 5, 4, 3, 2, 1)},
	}
}

// P13.1, P13.2: a call that is there with another edit stays as it was, however little the other one is unlike it; both Put and Get tell that.
func TestAnotherEdit(t *testing.T) {
	for e, l := range others() {
		for _, other := range l {
			c := filled(t, of(0, 7), *e, of(1, 8))
			wantState(t, c, 1, 7, other)
			want(t, "Put of another edit", c.Put(1, 7, other, number(99)), api.ErrState)
			wantState(t, c, 1, 7, other)
			wantThere(t, c, *e, number(1))
			wantOrder(t, c, of(0, 7), *e, of(1, 8))
			c = filled(t, other)
			wantState(t, c, 1, 7, *e)
			want(t, "Put of the one", c.Put(1, 7, *e, number(99)), api.ErrState)
			wantThere(t, c, other, number(0))
		}
	}
}

// P2, P13.1: where the edit is another client's, too, that is told first.
func TestPutErrorsInOrder(t *testing.T) {
	c := filled(t, of(1, 7), of(2, 7))
	want(t, "another client", c.Put(2, 7, block(1, 7, 5), number(99)), api.ErrArg)
	want(t, "not right", c.Put(1, 7, block(1, 7, -5), number(99)), api.ErrArg)
	want(t, "another edit", c.Put(1, 7, block(1, 7, 5), number(99)), api.ErrState)
	wantOrder(t, c, of(1, 7), of(2, 7))
}

// P13.1: one that is put again with the same edit is the newest one, with this answer, wherever it was.
func TestPutAgain(t *testing.T) {
	for which := range 3 {
		l := run(1, 0, 3)
		c := filled(t, l...)
		put(t, c, l[which], number(99))
		wantLen(t, c, 3)
		for i, e := range l {
			if i != which {
				wantThere(t, c, e, number(i))
			}
		}
		wantThere(t, c, l[which], number(99))
		again := l[which]
		wantOrder(t, c, append(slices.Delete(l, which, which+1), again)...)
	}
}

// P13.1, P5: Lengths are the same in other memory, and with other room behind them; none are none, nil or not.
func TestPutAgainInOtherMemory(t *testing.T) {
	for _, pair := range [][2][]int{
		{{5, 0, 64}, {5, 0, 64}},
		{{5, 0, 64}, append(make([]int, 0, 50), 5, 0, 64)},
		{{1, 2, 3, 4, 5, 6, 7, greatest}, {1, 2, 3, 4, 5, 6, 7, greatest}},
		{nil, {}},
		{{}, nil},
		{nil, make([]int, 0, 9)},
		{nil, []int{5}[:0]},
	} {
		first, second := block(1, 7), block(1, 7)
		first.Lengths, second.Lengths = pair[0], pair[1]
		c := filled(t, first, of(2, 7))
		wantThere(t, c, second, number(0))
		put(t, c, second, number(99))
		wantThere(t, c, first, number(99))
		wantThere(t, c, second, number(99))
		wantOrder(t, c, of(2, 7), first)
	}
	c := filled(t, of(1, 7), of(2, 7))
	e := of(1, 7)
	e.Lengths = []int{}
	wantThere(t, c, e, number(0))
	put(t, c, e, number(99))
	wantThere(t, c, of(1, 7), number(99))
	wantOrder(t, c, of(2, 7), of(1, 7))
}

// P13.1: an answer put again may be any other one, also one with less in it.
func TestPutAgainOtherAnswers(t *testing.T) {
	c := New()
	e := of(1, 7)
	for _, a := range answers() {
		put(t, c, e, a)
		wantThere(t, c, e, a)
		wantLen(t, c, 1)
	}
	put(t, c, e, api.Answer{})
	wantThere(t, c, e, api.Answer{})
}

// answers: of all that an answer may hold, also what no edit is answered with.
func answers() []api.Answer {
	blocks := []api.Block{{ID: 1, Gen: 2, Len: 3}, {ID: -1, Gen: math.MinInt, Len: math.MaxInt}, {}}
	return []api.Answer{
		{},
		{Err: api.ErrExist},
		{Err: -7},
		{Err: 99},
		{N: math.MinInt},
		{Block: api.Block{ID: 4, Gen: 5, Len: 6}},
		{Names: []string{"a"}},
		{Names: []string{"b", "a", "", "a", "\x00\xff", strings.Repeat("x", 5000)}},
		{Names: []string{}},
		{Node: api.Node{Path: "/a", Dir: true, Quota: 7, Writer: -1}},
		{Node: api.Node{Path: "/f", Quota: -1, Writer: 2, Blocks: slices.Clone(blocks)}},
		{Node: api.Node{Blocks: []api.Block{}}},
		{Err: api.ErrState, Block: blocks[0], Names: []string{"x", "y"}, Node: api.Node{Path: "no path", Dir: true, Quota: math.MaxInt, Blocks: slices.Clone(blocks), Writer: math.MinInt}, N: -1},
		{Names: slices.Repeat([]string{"many"}, 300), Node: api.Node{Blocks: slices.Repeat(blocks, 100)}},
	}
}

// P13.1, P13.2: each answer is told as it was put, with all that it holds, and while others are there.
func TestAnswers(t *testing.T) {
	c := New()
	all := answers()
	for i, a := range all {
		put(t, c, of(i%4, i), a)
	}
	for range 2 {
		for i, a := range all {
			wantThere(t, c, of(i%4, i), a)
		}
	}
	wantLen(t, c, len(all))
}

// P13.1: edits of all kinds are kept, with all that each may have.
func TestAllKinds(t *testing.T) {
	long := strings.Repeat("p", 120)
	var all []api.Edit
	for kind := api.MkDir; kind <= api.Reopen; kind++ {
		e := api.Edit{Kind: kind, Path: long, Client: kind % 4, Call: kind}
		switch kind {
		case api.Rename:
			e.To = long
		case api.AddBlock, api.Complete:
			e.Lengths = []int{0, 1, 2, 3, 4, 5, 6, greatest}
		case api.SetQuota:
			e.N = -1
		case api.Renew, api.Bump:
			e.N = greatest
		}
		all = append(all, e)
	}
	c := filled(t, all...)
	for i, e := range all {
		wantThere(t, c, e, number(i))
	}
	wantOrder(t, c, all...)
}
