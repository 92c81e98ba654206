package space

import (
	"testing"

	"tabularium/api"
)

// spent: a space of 60 nodes, in which / and /c are used up too, no number is left, and client 1 writes /f with 8 blocks.
func spent() api.Space {
	s := crowd(58)
	s.NextBlock, s.NextGen = greatest, greatest
	s.Leases = []api.Lease{{Client: 1, Until: 5}}
	for i := range 8 {
		at(&s, "/f").Blocks = append(at(&s, "/f").Blocks, block(1+i, 1, 1))
	}
	at(&s, "/f").Writer = 1
	at(&s, "/").Quota = 60
	put(&s, limited("/c", 2))
	put(&s, file("/c/f", -1))
	return s
}

// refusal: an edit in which two things or more are wrong, and the error that comes first.
type refusal struct {
	e    api.Edit
	want api.Errno
}

func wantOrder(t *testing.T, s api.Space, l []refusal) {
	t.Helper()
	wantRight(t, "ahead", s, true)
	for _, c := range l {
		wantRefused(t, s, c.e, c.want)
	}
}

// P2, P11.2: what is not right is told ahead of all, then that there may be no more edits, then what the kind asks.
func TestOrderAhead(t *testing.T) {
	last := with(spent(), func(s *api.Space) { s.Txid = 300 })
	faulty := []api.Edit{
		{Kind: api.MkDir, Path: ""},
		{Kind: api.MkDir, Path: "/c"},
		{Kind: api.Create, Path: "/x/y"},
		{Kind: api.Create, Path: "/f/x"},
		{Kind: api.Create, Path: "/c/x"},
		{Kind: api.Delete, Path: "/"},
		{Kind: api.Delete, Path: "/x"},
		{Kind: api.Rename, Path: "/c", To: "/c"},
		{Kind: api.Rename, Path: "/x", To: "/y"},
		{Kind: api.Rename, Path: "/d", To: "/c"},
		{Kind: api.Rename, Path: "/d", To: "/f/x"},
		{Kind: api.Rename, Path: "/d", To: "/c/x"},
		{Kind: api.AddBlock, Path: "/d"},
		{Kind: api.Complete, Path: "/x"},
		{Kind: api.Bump, Path: "/f"},
		{Kind: api.Reopen, Path: "/f"},
		{Kind: api.SetQuota, Path: "/f"},
		{Kind: api.SetQuota, Path: "/c"},
		{Kind: api.Renew, N: greatest},
	}
	for _, e := range faulty {
		wantRefused(t, last, e, api.ErrLong)
		wantRefused(t, with(last, func(s *api.Space) { s.NextGen = 0 }), e, api.ErrArg)
		wantRefused(t, with(last, func(s *api.Space) { at(s, "/c").Quota = 1 }), e, api.ErrArg)
		e.Call = -1
		wantRefused(t, last, e, api.ErrArg)
		wantRefused(t, spent(), e, api.ErrArg)
	}
}

// P2, P11.2: of what Add and Room tell, of both kinds.
func TestOrderOfAdd(t *testing.T) {
	for _, kind := range []int{api.MkDir, api.Create} {
		edit := func(p string) api.Edit { return api.Edit{Kind: kind, Path: p, Client: 1} }
		wantOrder(t, spent(), []refusal{
			{edit("/"), api.ErrArg},       // it is there; too many, used up
			{edit("/x/"), api.ErrArg},     // too many, used up
			{edit("/c/"), api.ErrArg},     // too many, used up
			{edit("/c"), api.ErrExist},    // too many, used up
			{edit("/c/f"), api.ErrExist},  // too many, used up
			{edit("/x/y"), api.ErrNone},   // too many, no room in what is not there
			{edit("/c/x/y"), api.ErrNone}, // too many, used up
			{edit("/f/x"), api.ErrDir},    // too many, no room in a file
			{edit("/c/f/x"), api.ErrDir},  // too many, used up
			{edit("/c/x"), api.ErrLong},   // used up
			{edit("/d/x"), api.ErrLong},   // used up
		})
		wantOrder(t, town(), []refusal{
			{edit("/q/r"), api.ErrExist},  // used up
			{edit("/q/x/y"), api.ErrNone}, // used up
			{edit("/x/y"), api.ErrNone},   // no room in what is not there
			{edit("/e/x"), api.ErrDir},    // no room in a file
		})
	}
}

// P2, P11.2: of what Move and Over tell.
func TestOrderOfRename(t *testing.T) {
	deep := with(town(), func(s *api.Space) {
		for _, n := range []api.Node{
			dir("/d/1"), dir("/d/1/2"), dir("/d/1/2/3"), file("/d/1/2/3/f", -1), dir("/d/1/2/3/x"), limited("/d/1/2/3/z", 1),
			limited("/w", 2), file("/w/f", -1), limited("/y", 2), dir("/y/x"),
		} {
			put(s, n)
		}
	})
	edit := func(from, to string) api.Edit { return api.Edit{Kind: api.Rename, Path: from, To: to} }
	wantOrder(t, deep, []refusal{
		{edit("/m", "/m"), api.ErrArg},       // to is under from; from is not there
		{edit("/m", "/m/n"), api.ErrArg},     // nor is to's parent
		{edit("/a", "/a/m/n"), api.ErrArg},   // to's parent is not there
		{edit("/e", "/e/x"), api.ErrArg},     // to's parent is a file
		{edit("/a", "/a/b"), api.ErrArg},     // to is there
		{edit("/a", "/"), api.ErrArg},        // to is the root, which is there
		{edit("/", "/a"), api.ErrArg},        // from is the root, to is there
		{edit("/a", "/w/"), api.ErrArg},      // to is no path; used up
		{edit("/", "/c/x"), api.ErrArg},      // from is the root; used up
		{edit("/d", "/d/1/2/x"), api.ErrArg}, // a path would be too long
		{edit("/q", "/q/x"), api.ErrArg},     // used up

		{edit("/m", "/e/x"), api.ErrNone},   // from is not there; to's parent is a file
		{edit("/m", "/a"), api.ErrNone},     // to is there
		{edit("/m", "/c/x"), api.ErrNone},   // used up
		{edit("/a", "/c/m/x"), api.ErrNone}, // to's parent is not there; used up
		{edit("/d", "/a/m/x"), api.ErrNone}, // a path would be too long

		{edit("/a", "/d/1/2/3/f/x"), api.ErrDir}, // a path would be too long
		{edit("/a", "/w/f/x"), api.ErrDir},       // used up

		{edit("/d", "/y/x"), api.ErrExist},       // used up
		{edit("/e", "/y/x"), api.ErrExist},       // used up
		{edit("/d", "/w/f"), api.ErrExist},       // a directory onto a file; used up
		{edit("/a", "/d/1/2/3/x"), api.ErrExist}, // a path would be too long

		{edit("/a", "/d/1/2/3/z/x"), api.ErrLong}, // used up
		{edit("/d/1", "/y/x/z"), api.ErrFull},     // nothing else is wrong
	})
	wantOrder(t, with(deep, func(s *api.Space) { drop(s, "/d/1/2/3/z"); put(s, dir("/y/x/z")); at(s, "/y").Quota = 3 }), []refusal{
		{edit("/d/1", "/y/x/z/1"), api.ErrLong}, // used up
	})
}

// P2, P11.2: of a file's edits.
func TestOrderOfWriters(t *testing.T) {
	tooFew, tooLong := make([]int, 7), []int{1, 1, 1, 1, 1, 1, 1, 65}
	for _, kind := range []int{api.AddBlock, api.Complete} {
		for _, l := range [][]int{tooFew, tooLong} {
			edit := func(p string, client int) api.Edit {
				return api.Edit{Kind: kind, Path: p, Client: client, Lengths: l}
			}
			wantOrder(t, spent(), []refusal{ // beside each: the lengths are wrong, no number is left
				{edit("/f/", 1), api.ErrArg},
				{edit("/x", 1), api.ErrNone},
				{edit("/f/x", 1), api.ErrNone},
				{edit("/", 1), api.ErrDir}, // nor does Client write it
				{edit("/d", 1), api.ErrDir},
				{edit("/c/f", 1), api.ErrLease},
				{edit("/f", 2), api.ErrLease},
				{edit("/f", 1), api.ErrArg},
			})
		}
	}
	edit := func(p string, client int) api.Edit {
		return api.Edit{Kind: api.AddBlock, Path: p, Client: client, Lengths: make([]int, 8)}
	}
	wantOrder(t, spent(), []refusal{ // the lengths are right: no number is left
		{edit("/f", 2), api.ErrLease},
		{edit("/f", 1), api.ErrLong},
	})
	eight := with(spent(), func(s *api.Space) { s.NextBlock, s.NextGen = 100, 100 })
	wantOrder(t, eight, []refusal{ // there are 8 blocks
		{edit("/f", 2), api.ErrLease},
		{api.Edit{Kind: api.AddBlock, Path: "/f", Client: 1, Lengths: tooFew}, api.ErrArg},
		{api.Edit{Kind: api.AddBlock, Path: "/f", Client: 1, Lengths: tooLong}, api.ErrArg},
		{edit("/f", 1), api.ErrLong},
	})
	bump := func(p string, client, n int) api.Edit {
		return api.Edit{Kind: api.Bump, Path: p, Client: client, N: n}
	}
	wantOrder(t, spent(), []refusal{ // beside each: no number is left
		{bump("/f/", 1, 8), api.ErrArg},
		{bump("/x", 1, 8), api.ErrNone},
		{bump("/d", 1, 8), api.ErrDir},
		{bump("/d", 1, 0), api.ErrDir},
		{bump("/c/f", 1, 0), api.ErrLease},
		{bump("/f", 2, 8), api.ErrLease},
		{bump("/f", 2, 7), api.ErrLease},
		{bump("/f", 1, 8), api.ErrArg},
		{bump("/f", 1, 7), api.ErrLong},
	})
	wantOrder(t, town(), []refusal{
		{api.Edit{Kind: api.Reopen, Path: "/d", Client: 1}, api.ErrDir},
		{api.Edit{Kind: api.Reopen, Path: "/e/", Client: 1}, api.ErrArg}, // of /e it would be ErrLease
		{api.Edit{Kind: api.SetQuota, Path: "/e"}, api.ErrDir},           // a file, and less than its Count
		{api.Edit{Kind: api.SetQuota, Path: "/q/"}, api.ErrArg},          // of /q it would be ErrFull
		{api.Edit{Kind: api.SetQuota, Path: "/x"}, api.ErrNone},
	})
}
