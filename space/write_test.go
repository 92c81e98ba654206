package space

import (
	"slices"
	"testing"

	"tabularium/api"
)

// fileOf: the town in which client 1 writes /f, with so many blocks whose IDs begin at 100.
func fileOf(blocks int) api.Space {
	return with(town(), func(s *api.Space) {
		s.NextBlock, s.NextGen = 200, 300
		n := file("/f", 1)
		for i := range blocks {
			n.Blocks = append(n.Blocks, block(100+i, 200+i, i))
		}
		put(s, n)
	})
}

// lengths: so many, each another one, and none that a block of fileOf has.
func lengths(many int) []int {
	var l []int
	for i := range many {
		l = append(l, 64-i)
	}
	return l
}

func edits(kinds ...int) []api.Edit {
	var l []api.Edit
	for _, kind := range kinds {
		l = append(l, api.Edit{Kind: kind})
	}
	return l
}

// P11.2: what is no path, is not there, is a directory, or is not written by Client, is refused.
func TestWritersAreAsked(t *testing.T) {
	for _, e := range edits(api.AddBlock, api.Complete, api.Bump) {
		ask := func(p string, client int, want api.Errno) {
			t.Helper()
			e.Path, e.Client = p, client
			wantRefused(t, town(), e, want)
		}
		for client := range 4 {
			for _, p := range noPaths() {
				ask(p, client, api.ErrArg)
			}
			for _, p := range []string{"/x", "/a/x", "/x/y", "/e/x"} {
				ask(p, client, api.ErrNone)
			}
			for _, p := range []string{"/", "/a", "/a/b", "/c", "/q/r/s"} {
				ask(p, client, api.ErrDir)
			}
			for _, p := range []string{"/h", "/a/g"} { // nobody writes it
				ask(p, client, api.ErrLease)
			}
			if client != 1 {
				ask("/a/b/f", client, api.ErrLease)
			}
			if client != 2 {
				ask("/e", client, api.ErrLease)
			}
		}
	}
}

// P11.2: a block comes behind the others, which have the lengths that are told.
func TestAddBlock(t *testing.T) {
	for many := range 8 {
		s := fileOf(many)
		want := with(s, func(s *api.Space) {
			s.Txid, s.NextBlock, s.NextGen = 41, 201, 301
			n := at(s, "/f")
			for i := range n.Blocks {
				n.Blocks[i].Len = 64 - i
			}
			n.Blocks = append(n.Blocks, block(200, 300, 0))
		})
		wantApply(t, s, api.Edit{Kind: api.AddBlock, Path: "/f", Client: 1, Lengths: lengths(many)}, want, api.Answer{Block: block(200, 300, 0), Node: *at(&want, "/f")})
	}
	wantRefused(t, fileOf(8), api.Edit{Kind: api.AddBlock, Path: "/f", Client: 1, Lengths: lengths(8)}, api.ErrLong)
}

// P11.2: one behind the other, until there are MaxBlocks.
func TestAddBlocks(t *testing.T) {
	s := wantOK(t, New(), api.Edit{Kind: api.Create, Path: "/f", Client: 2})
	for i := range 8 {
		next, a := Apply(s, api.Edit{Kind: api.AddBlock, Path: "/f", Client: 2, Lengths: lengths(i)})
		if want := block(i+1, i+1, 0); a.Err != api.OK || a.Block != want || len(a.Node.Blocks) != i+1 || next.NextBlock != i+2 || next.NextGen != i+2 {
			t.Fatalf("block %d: %s", i, tell(a))
		}
		s = next
	}
	wantRefused(t, s, api.Edit{Kind: api.AddBlock, Path: "/f", Client: 2, Lengths: lengths(8)}, api.ErrLong)
}

// P11.2: at the end of the numbers there is no block, and no generation, any more.
func TestNumbersEnd(t *testing.T) {
	add := api.Edit{Kind: api.AddBlock, Path: "/f", Client: 1, Lengths: []int{3}}
	bump := api.Edit{Kind: api.Bump, Path: "/f", Client: 1}
	for _, c := range []struct {
		nextBlock, nextGen int
		add, bump          api.Errno
	}{
		{greatest - 1, greatest - 1, api.OK, api.OK},
		{greatest, greatest - 1, api.ErrLong, api.OK},
		{greatest - 1, greatest, api.ErrLong, api.ErrLong},
		{greatest, greatest, api.ErrLong, api.ErrLong},
		{200, greatest, api.ErrLong, api.ErrLong},
		{greatest, 300, api.ErrLong, api.OK},
	} {
		s := with(fileOf(1), func(s *api.Space) { s.NextBlock, s.NextGen = c.nextBlock, c.nextGen })
		if c.add != api.OK {
			wantRefused(t, s, add, c.add)
		} else if next := wantOK(t, s, add); next.NextBlock != c.nextBlock+1 || next.NextGen != c.nextGen+1 {
			t.Errorf("AddBlock at %d, %d: %d, %d", c.nextBlock, c.nextGen, next.NextBlock, next.NextGen)
		}
		if c.bump != api.OK {
			wantRefused(t, s, bump, c.bump)
		} else if next := wantOK(t, s, bump); next.NextBlock != c.nextBlock || next.NextGen != c.nextGen+1 {
			t.Errorf("Bump at %d, %d: %d, %d", c.nextBlock, c.nextGen, next.NextBlock, next.NextGen)
		}
	}
}

// P11.2: there are as many lengths as blocks, none of them above MaxBlock.
func TestLengths(t *testing.T) {
	for _, e := range edits(api.AddBlock, api.Complete) {
		e.Path, e.Client = "/f", 1
		for many := range 8 {
			s := fileOf(many)
			for told := range 9 {
				e.Lengths = lengths(told)
				if told == many {
					wantOK(t, s, e)
				} else {
					wantRefused(t, s, e, api.ErrArg)
				}
			}
			for i := range many {
				for length, want := range map[int]api.Errno{0: api.OK, 63: api.OK, 64: api.OK, 65: api.ErrArg, greatest: api.ErrArg} {
					e.Lengths = lengths(many)
					e.Lengths[i] = length
					if want != api.OK {
						wantRefused(t, s, e, want)
					} else if next := wantOK(t, s, e); at(&next, "/f").Blocks[i].Len != length {
						t.Errorf("%s: a block of %d bytes", tell(e), at(&next, "/f").Blocks[i].Len)
					}
				}
			}
		}
		e.Lengths = []int{}
		wantOK(t, fileOf(0), e)
	}
}

// P11.2: nobody writes it any more; its blocks have the lengths that are told; leases stay.
func TestComplete(t *testing.T) {
	for many := range 9 {
		s := fileOf(many)
		want := with(s, func(s *api.Space) {
			s.Txid = 41
			n := at(s, "/f")
			n.Writer = -1
			for i := range n.Blocks {
				n.Blocks[i].Len = 64 - i
			}
		})
		e := api.Edit{Kind: api.Complete, Path: "/f", Client: 1, Lengths: lengths(many)}
		wantApply(t, s, e, want, api.Answer{Node: *at(&want, "/f")})
		next, _ := Apply(s, e)
		wantRefused(t, next, e, api.ErrLease)
	}
}

// P11.2: the N-th block, from 0 on, has a new generation, and no other one has; its length stays.
func TestBump(t *testing.T) {
	for many := range 9 {
		s := fileOf(many)
		for n := range many {
			want := with(s, func(s *api.Space) {
				s.Txid, s.NextGen = 41, 301
				at(s, "/f").Blocks[n].Gen = 300
			})
			wantApply(t, s, api.Edit{Kind: api.Bump, Path: "/f", Client: 1, N: n}, want, api.Answer{Block: block(100+n, 300, n), Node: *at(&want, "/f")})
		}
		for _, n := range []int{many, many + 1, 9, greatest} {
			wantRefused(t, s, api.Edit{Kind: api.Bump, Path: "/f", Client: 1, N: n}, api.ErrArg)
		}
	}
}

// P11.2: what nobody writes Client writes, whose lease is renewed.
func TestReopen(t *testing.T) {
	leases := [][]api.Lease{
		{{Client: 0, Until: 17}, {Client: 1, Until: 12}, {Client: 2, Until: 30}},
		{{Client: 1, Until: 17}, {Client: 2, Until: 30}},
		{{Client: 1, Until: 12}, {Client: 2, Until: 30}},
		{{Client: 1, Until: 12}, {Client: 2, Until: 30}, {Client: 3, Until: 17}},
	}
	for client := range 4 {
		for _, p := range []string{"/h", "/a/g"} {
			want := with(town(), func(s *api.Space) {
				s.Txid, s.Leases = 41, leases[client]
				at(s, p).Writer = client
			})
			wantApply(t, town(), api.Edit{Kind: api.Reopen, Path: p, Client: client}, want, api.Answer{Node: *at(&want, p)})
		}
		ask := func(want api.Errno, paths ...string) {
			t.Helper()
			for _, p := range paths {
				wantRefused(t, town(), api.Edit{Kind: api.Reopen, Path: p, Client: client}, want)
			}
		}
		ask(api.ErrArg, noPaths()...)
		ask(api.ErrNone, "/x", "/a/x", "/x/y", "/e/x")
		ask(api.ErrDir, "/", "/a", "/a/b", "/c")
		ask(api.ErrLease, "/e", "/a/b/f") // also where Client writes it itself
	}
}

// P11.2: a quota may be as much as is there, not less, or none.
func TestSetQuota(t *testing.T) {
	for p, count := range map[string]int{"/": 12, "/a": 4, "/a/b": 2, "/c": 1, "/d": 1, "/q": 3, "/q/r": 2} {
		for _, n := range []int{-1, count, count + 1, 60, greatest} {
			want := with(town(), func(s *api.Space) {
				s.Txid = 41
				at(s, p).Quota = n
			})
			for client := range 4 {
				wantApply(t, town(), api.Edit{Kind: api.SetQuota, Path: p, N: n, Client: client}, want, api.Answer{})
			}
		}
		for n := range count {
			wantRefused(t, town(), api.Edit{Kind: api.SetQuota, Path: p, N: n}, api.ErrFull)
		}
	}
	for _, n := range []int{-1, 0, 1, 2, greatest} {
		for _, p := range noPaths() {
			wantRefused(t, town(), api.Edit{Kind: api.SetQuota, Path: p, N: n}, api.ErrArg)
		}
		for _, p := range []string{"/x", "/a/x", "/x/y", "/e/x"} {
			wantRefused(t, town(), api.Edit{Kind: api.SetQuota, Path: p, N: n}, api.ErrNone)
		}
		for _, p := range []string{"/e", "/h", "/a/g", "/a/b/f"} {
			wantRefused(t, town(), api.Edit{Kind: api.SetQuota, Path: p, N: n}, api.ErrDir)
		}
	}
}

// P11.2: time goes on, or stands; what Path a Renew has is not asked.
func TestRenew(t *testing.T) {
	for _, n := range []int{7, 8, 19, 20, 21, 1000, greatest - 11, greatest - 10} {
		for client := range 4 {
			want := with(town(), func(s *api.Space) {
				s.Txid, s.Now = 41, n
				i := slices.IndexFunc(s.Leases, func(l api.Lease) bool { return l.Client == client })
				if i >= 0 {
					s.Leases[i].Until = max(s.Leases[i].Until, n+10)
					return
				}
				s.Leases = append(s.Leases, api.Lease{Client: client, Until: n + 10})
				slices.SortFunc(s.Leases, func(a, b api.Lease) int { return a.Client - b.Client })
			})
			for _, p := range []string{"", "/", "/a", "/e", "/x", "no path"} {
				wantApply(t, town(), api.Edit{Kind: api.Renew, Path: p, N: n, Client: client}, want, api.Answer{})
			}
		}
	}
	for _, n := range []int{0, 1, 6, greatest - 9, greatest} {
		wantRefused(t, town(), api.Edit{Kind: api.Renew, N: n}, api.ErrArg)
	}
	for now, ns := range map[int][]int{0: {}, 1: {0}, greatest - 10: {0, greatest - 11, greatest - 9, greatest}} {
		s := with(town(), func(s *api.Space) { s.Now = now })
		for _, n := range ns {
			wantRefused(t, s, api.Edit{Kind: api.Renew, N: n}, api.ErrArg)
		}
		next := wantOK(t, s, api.Edit{Kind: api.Renew, Client: 3, N: now})
		if next.Now != now || next.Leases[2] != (api.Lease{Client: 3, Until: now + 10}) {
			t.Errorf("a Renew at %d makes %s", now, tell(next))
		}
	}
}

// P11.2: Create, Reopen and Renew renew the lease of Client, not that of another; no other kind renews any, or drops one.
func TestWhoRenews(t *testing.T) {
	early := with(town(), func(s *api.Space) {
		s.Leases = []api.Lease{{Client: 0, Until: 1}, {Client: 1, Until: 2}, {Client: 2, Until: 3}, {Client: 3, Until: 4}}
	})
	for _, e := range sound() {
		next := wantOK(t, early, e)
		until := next.Now + 10
		for i, l := range next.Leases {
			want := i + 1
			renews := e.Kind == api.Create || e.Kind == api.Reopen || e.Kind == api.Renew
			if i == e.Client && renews {
				want = until
			}
			if l.Client != i || l.Until != want {
				t.Errorf("%s: client %d has a lease until %d, not %d", tell(e), l.Client, l.Until, want)
			}
		}
		if len(next.Leases) != 4 {
			t.Errorf("%s: the leases are %s", tell(e), tell(next.Leases))
		}
	}
	// At the latest time that there may be a lease lasts until the greatest number.
	late := with(town(), func(s *api.Space) { s.Now = greatest - 10 })
	for _, e := range []api.Edit{{Kind: api.Create, Path: "/x"}, {Kind: api.Reopen, Path: "/h"}, {Kind: api.Renew, N: greatest - 10}} {
		if next := wantOK(t, late, e); next.Leases[0] != (api.Lease{Client: 0, Until: greatest}) {
			t.Errorf("%s: the leases are %s", tell(e), tell(next.Leases))
		}
	}
	// Until when a lease lasts is not asked: who writes goes on, however late it is.
	if next := wantOK(t, late, api.Edit{Kind: api.AddBlock, Path: "/e", Client: 2}); !slices.Equal(next.Leases, late.Leases) {
		t.Errorf("AddBlock makes the leases %s", tell(next.Leases))
	}
}

// P11.2: what an edit that was made is answered with, kind by kind, and nothing else.
func TestWhatIsTold(t *testing.T) {
	for _, e := range sound() {
		next, a := Apply(town(), e)
		var want api.Answer
		switch e.Kind {
		case api.Create, api.AddBlock, api.Complete, api.Bump, api.Reopen:
			want.Node = *at(&next, e.Path)
		}
		switch e.Kind {
		case api.AddBlock:
			want.Block = block(20, 30, 0)
		case api.Bump:
			want.Block = block(2, 30, 0)
		}
		if !sameAnswer(a, want) {
			t.Errorf("%s is answered %s, not %s", tell(e), tell(a), tell(want))
		}
	}
}
