package space

import (
	"math"
	"strings"
	"testing"

	"tabularium/api"
)

// sound: one edit of each kind that can be made in the town.
func sound() []api.Edit {
	return []api.Edit{
		{Kind: api.MkDir, Path: "/x", Client: 3, Call: 1},
		{Kind: api.Create, Path: "/x", Client: 3, Call: 1},
		{Kind: api.Delete, Path: "/a", Client: 3, Call: 1},
		{Kind: api.Rename, Path: "/a", To: "/d/a", Client: 3, Call: 1},
		{Kind: api.AddBlock, Path: "/a/b/f", Client: 1, Call: 1, Lengths: []int{1, 2, 3}},
		{Kind: api.Complete, Path: "/a/b/f", Client: 1, Call: 1, Lengths: []int{1, 2, 3}},
		{Kind: api.SetQuota, Path: "/a", Client: 3, Call: 1, N: 6},
		{Kind: api.Renew, Client: 3, Call: 1, N: 9},
		{Kind: api.Bump, Path: "/a/b/f", Client: 1, Call: 1, N: 1},
		{Kind: api.Reopen, Path: "/a/g", Client: 3, Call: 1},
	}
}

// P11.2: a space that is not right is ErrArg, whatever is asked of it.
func TestApplyAsksTheSpace(t *testing.T) {
	for _, s := range wrongs() {
		for _, e := range sound() {
			wantRefused(t, s, e, api.ErrArg)
		}
	}
}

// P11.2: an edit that is not right is ErrArg.
func TestApplyAsksTheEdit(t *testing.T) {
	for _, e := range sound() {
		wantOK(t, town(), e)
		for _, do := range []func(e *api.Edit){
			func(e *api.Edit) { e.Kind = 0 },
			func(e *api.Edit) { e.Kind = -1 },
			func(e *api.Edit) { e.Kind = 11 },
			func(e *api.Edit) { e.Kind = math.MinInt },
			func(e *api.Edit) { e.Path = "/" + strings.Repeat("x", 120) },
			func(e *api.Edit) { e.To = "/" + strings.Repeat("x", 120) },
			func(e *api.Edit) { e.Client = -1 },
			func(e *api.Edit) { e.Client = 4 },
			func(e *api.Edit) { e.Client = math.MaxInt },
			func(e *api.Edit) { e.Call = -1 },
			func(e *api.Edit) { e.Call = greatest + 1 },
			func(e *api.Edit) { e.N = -2 },
			func(e *api.Edit) { e.N = greatest + 1 },
			func(e *api.Edit) { e.N = math.MinInt },
			func(e *api.Edit) { e.Lengths = make([]int, 9) },
			func(e *api.Edit) { e.Lengths = []int{1, -1, 3} },
			func(e *api.Edit) { e.Lengths = []int{1, greatest + 1, 3} },
		} {
			bad := e
			do(&bad)
			wantRefused(t, town(), bad, api.ErrArg)
		}
	}
	for _, e := range sound() {
		if e.Kind != api.Rename {
			e.To = "/z"
			wantRefused(t, town(), e, api.ErrArg)
			e.To = ""
		}
		if e.Kind != api.AddBlock && e.Kind != api.Complete {
			e.Lengths = []int{0}
			wantRefused(t, town(), e, api.ErrArg)
			e.Lengths = nil
		}
		if e.N == 0 {
			e.N = 1
			wantRefused(t, town(), e, api.ErrArg)
		}
	}
}

// P11.2: the 300th edit is the last one; Txid is one more by each.
func TestApplyTxid(t *testing.T) {
	for _, txid := range []int{0, 1, 40, 298, 299} {
		s := with(town(), func(s *api.Space) { s.Txid = txid })
		for _, e := range sound() {
			if next := wantOK(t, s, e); next.Txid != txid+1 {
				t.Errorf("%s: Txid %d behind %d", tell(e), next.Txid, txid)
			}
		}
	}
	s := with(town(), func(s *api.Space) { s.Txid = 300 })
	for _, e := range sound() {
		wantRefused(t, s, e, api.ErrLong)
	}
}

// P11.2: which edits can be made does not hang on the number of their call, which is not kept.
func TestApplyCall(t *testing.T) {
	for _, e := range sound() {
		want, a := Apply(town(), e)
		for _, call := range []int{0, 1, 2, greatest} {
			e.Call = call
			wantApply(t, town(), e, want, a)
		}
	}
}

// P11.2: a directory comes, and nothing is told of it.
func TestMkDir(t *testing.T) {
	for _, p := range []string{"/x", "/0", "/a/x", "/a/b/x", "/d/x", "/q-"} {
		want := with(town(), func(s *api.Space) {
			s.Txid = 41
			put(s, dir(p))
		})
		for client := range 4 {
			wantApply(t, town(), api.Edit{Kind: api.MkDir, Path: p, Client: client}, want, api.Answer{})
		}
	}
}

// P11.2: a file comes, which Client writes, whose lease is renewed.
func TestCreate(t *testing.T) {
	leases := [][]api.Lease{
		{{Client: 0, Until: 17}, {Client: 1, Until: 12}, {Client: 2, Until: 30}},
		{{Client: 1, Until: 17}, {Client: 2, Until: 30}},
		{{Client: 1, Until: 12}, {Client: 2, Until: 30}},
		{{Client: 1, Until: 12}, {Client: 2, Until: 30}, {Client: 3, Until: 17}},
	}
	for _, p := range []string{"/x", "/0", "/a/x", "/a/b/x", "/d/x", "/q-"} {
		for client := range 4 {
			want := with(town(), func(s *api.Space) {
				s.Txid, s.Leases = 41, leases[client]
				put(s, file(p, client))
			})
			wantApply(t, town(), api.Edit{Kind: api.Create, Path: p, Client: client}, want, api.Answer{Node: file(p, client)})
		}
	}
}

// P11.2: what Add refuses is refused of both kinds.
func TestAddRefuses(t *testing.T) {
	for _, kind := range []int{api.MkDir, api.Create} {
		for _, p := range append(noPaths(), "/") {
			wantRefused(t, town(), api.Edit{Kind: kind, Path: p}, api.ErrArg)
		}
		for p, want := range map[string]api.Errno{
			"/a":         api.ErrExist,
			"/e":         api.ErrExist,
			"/a/b":       api.ErrExist,
			"/a/b/f":     api.ErrExist,
			"/x/y":       api.ErrNone,
			"/a/x/y":     api.ErrNone,
			"/a/b/x/y/z": api.ErrNone,
			"/e/x/y":     api.ErrNone,
			"/e/x":       api.ErrDir,
			"/a/b/f/x":   api.ErrDir,
		} {
			wantRefused(t, town(), api.Edit{Kind: kind, Path: p}, want)
		}
		wantOK(t, crowd(59), api.Edit{Kind: kind, Path: "/x"})
		wantRefused(t, crowd(60), api.Edit{Kind: kind, Path: "/x"}, api.ErrLong)
		wantRefused(t, crowd(60), api.Edit{Kind: kind, Path: "/d/x"}, api.ErrLong)
	}
}

// P11.2: nothing comes where there is no room, also where a directory further up is used up.
func TestAddAsksRoom(t *testing.T) {
	for _, kind := range []int{api.MkDir, api.Create} {
		s := wantOK(t, town(), api.Edit{Kind: kind, Path: "/a/x"}) // the last one that has room
		for _, p := range []string{"/a/y", "/a/b/y"} {
			wantRefused(t, s, api.Edit{Kind: kind, Path: p}, api.ErrFull)
		}
		s = wantOK(t, town(), api.Edit{Kind: kind, Path: "/a/b/x"})
		for _, p := range []string{"/a/y", "/a/b/y"} {
			wantRefused(t, s, api.Edit{Kind: kind, Path: p}, api.ErrFull)
		}
		for _, p := range []string{"/c/x", "/q/x", "/q/r/x", "/q/r/s/x"} {
			wantRefused(t, town(), api.Edit{Kind: kind, Path: p}, api.ErrFull)
		}
		for rootQuota, want := range map[int]api.Errno{12: api.ErrFull, 13: api.OK} {
			s := with(town(), func(s *api.Space) { at(s, "/").Quota = rootQuota })
			for _, p := range []string{"/x", "/d/x", "/a/b/x"} {
				if want == api.OK {
					wantOK(t, s, api.Edit{Kind: kind, Path: p})
				} else {
					wantRefused(t, s, api.Edit{Kind: kind, Path: p}, want)
				}
			}
		}
	}
}

// P11.2: all that is under Path is gone, whoever writes it; leases stay, and what comes next stays as it was.
func TestDelete(t *testing.T) {
	for p, gone := range map[string][]string{
		"/a":     {"/a", "/a/b", "/a/b/f", "/a/g"},
		"/a/b":   {"/a/b", "/a/b/f"},
		"/a/b/f": {"/a/b/f"},
		"/c":     {"/c"},
		"/e":     {"/e"},
		"/q/r":   {"/q/r", "/q/r/s"},
	} {
		want := with(town(), func(s *api.Space) {
			s.Txid = 41
			for _, p := range gone {
				drop(s, p)
			}
		})
		for client := range 4 {
			wantApply(t, town(), api.Edit{Kind: api.Delete, Path: p, Client: client}, want, api.Answer{})
		}
	}
	for _, p := range append(noPaths(), "/") {
		wantRefused(t, town(), api.Edit{Kind: api.Delete, Path: p}, api.ErrArg)
	}
	for _, p := range []string{"/x", "/a/x", "/x/y", "/e/x", "/a/b/f/x"} {
		wantRefused(t, town(), api.Edit{Kind: api.Delete, Path: p}, api.ErrNone)
	}
}

// moved: the town when each path that stands there, by turns from and to, is another one, and those that are gone are gone.
func moved(gone string, paths ...string) api.Space {
	return with(town(), func(s *api.Space) {
		s.Txid = 41
		if gone != "" {
			drop(s, gone)
		}
		for i := 0; i < len(paths); i += 2 {
			n := *at(s, paths[i])
			drop(s, paths[i])
			n.Path = paths[i+1]
			put(s, n)
		}
	})
}

// P11.2: what is renamed keeps what it has: blocks, quotas, who writes it; a file takes the place of a file.
func TestRename(t *testing.T) {
	for _, c := range []struct {
		from, to string
		want     api.Space
	}{
		{"/e", "/x", moved("", "/e", "/x")},
		{"/a", "/d/x", moved("", "/a", "/d/x", "/a/b", "/d/x/b", "/a/b/f", "/d/x/b/f", "/a/g", "/d/x/g")},
		{"/a/b/f", "/0", moved("", "/a/b/f", "/0")},
		{"/q", "/0", moved("", "/q", "/0", "/q/r", "/0/r", "/q/r/s", "/0/r/s")},
		{"/a/g", "/h", moved("/h", "/a/g", "/h")},
		{"/h", "/a/g", moved("/a/g", "/h", "/a/g")},
		{"/e", "/a/b/f", moved("/a/b/f", "/e", "/a/b/f")},
		{"/a/b/f", "/a/g", moved("/a/g", "/a/b/f", "/a/g")},
		{"/e", "/a/x", moved("", "/e", "/a/x")},         // the last one that /a has room for
		{"/a/g", "/a/b/g", moved("", "/a/g", "/a/b/g")}, // within /a nothing is more
		{"/q/r/s", "/q/s", moved("", "/q/r/s", "/q/s")}, // also where it is used up
		{"/q/r", "/q/0", moved("", "/q/r", "/q/0", "/q/r/s", "/q/0/s")},
	} {
		for client := range 4 {
			wantApply(t, town(), api.Edit{Kind: api.Rename, Path: c.from, To: c.to, Client: client}, c.want, api.Answer{})
		}
	}
}

// P11.2: what Move refuses is refused.
func TestRenameRefuses(t *testing.T) {
	for _, p := range append(noPaths(), "/") {
		wantRefused(t, town(), api.Edit{Kind: api.Rename, Path: p, To: "/x"}, api.ErrArg)
		wantRefused(t, town(), api.Edit{Kind: api.Rename, Path: "/e", To: p}, api.ErrArg)
	}
	for _, c := range []struct {
		from, to string
		want     api.Errno
	}{
		{"/a", "/a", api.ErrArg},
		{"/e", "/e", api.ErrArg},
		{"/a", "/a/x", api.ErrArg},
		{"/a", "/a/b/x", api.ErrArg},
		{"/x", "/y", api.ErrNone},
		{"/e", "/x/y", api.ErrNone},
		{"/e", "/h/x", api.ErrDir},
		{"/a", "/e/x", api.ErrDir},
		{"/a", "/e", api.ErrExist},
		{"/e", "/a", api.ErrExist},
		{"/d", "/q", api.ErrExist},
		{"/a/g", "/a", api.ErrExist},
		{"/a", "/q/r/s/x", api.ErrFull},
	} {
		wantRefused(t, town(), api.Edit{Kind: api.Rename, Path: c.from, To: c.to}, c.want)
	}
	deep := with(town(), func(s *api.Space) {
		for _, p := range []string{"/d/1", "/d/1/2", "/d/1/2/3"} {
			put(s, dir(p))
		}
	})
	wantOK(t, deep, api.Edit{Kind: api.Rename, Path: "/a", To: "/d/1/2/x"})
	wantRefused(t, deep, api.Edit{Kind: api.Rename, Path: "/a", To: "/d/1/2/3/x"}, api.ErrLong)
}

// P11.2: a rename by which something would be Over is refused, at each directory that it would stand under.
func TestRenameAsksOver(t *testing.T) {
	s := wantOK(t, town(), api.Edit{Kind: api.Rename, Path: "/e", To: "/a/e"})
	for _, to := range []string{"/a/x", "/a/b/x"} {
		wantRefused(t, s, api.Edit{Kind: api.Rename, Path: "/h", To: to}, api.ErrFull)
		wantRefused(t, town(), api.Edit{Kind: api.Rename, Path: "/q/r", To: to}, api.ErrFull) // it brings two
		wantOK(t, town(), api.Edit{Kind: api.Rename, Path: "/q/r/s", To: to})                 // it brings one
	}
	for _, to := range []string{"/c/x", "/q/x", "/q/r/x", "/q/r/s/x"} {
		wantRefused(t, town(), api.Edit{Kind: api.Rename, Path: "/e", To: to}, api.ErrFull)
	}
	// Where a file takes the place of a file, nothing is more there.
	wantOK(t, s, api.Edit{Kind: api.Rename, Path: "/h", To: "/a/g"})
	wantOK(t, s, api.Edit{Kind: api.Rename, Path: "/h", To: "/a/b/f"})
	// A directory that is moved takes its own quota with it, which is kept.
	s = wantOK(t, town(), api.Edit{Kind: api.Rename, Path: "/c", To: "/d/c"})
	wantRefused(t, s, api.Edit{Kind: api.Rename, Path: "/e", To: "/d/c/e"}, api.ErrFull)
	s = with(town(), func(s *api.Space) { at(s, "/").Quota = 12 })
	wantOK(t, s, api.Edit{Kind: api.Rename, Path: "/a", To: "/d/x"}) // under / nothing is more
}
