package edit

import (
	"testing"

	"tabularium/api"
)

// known: one edit of each kind at least, and its bytes, written out.
func known() map[string]api.Edit {
	return map[string]api.Edit{
		"\x02\x04/a\x00\x00\x00\x00\x00":                                                               {Kind: api.MkDir, Path: "/a"}, // the chapter's example
		"\x02\x00\x00\x00\x00\x00\x00":                                                                 {Kind: api.MkDir},
		"\x04\x04/f\x00\x02\x04\x00\x00":                                                               {Kind: api.Create, Path: "/f", Client: 1, Call: 2},
		"\x06\x02/\x00\x06\x80\x01\x00\x00":                                                            {Kind: api.Delete, Path: "/", Client: 3, Call: 64},
		"\x08\x04/a\x0a/b/cd\x04\x7e\x00\x00":                                                          {Kind: api.Rename, Path: "/a", To: "/b/cd", Client: 2, Call: 63},
		"\x08\x00\x02x\x00\x00\x00\x00":                                                                {Kind: api.Rename, To: "x"},
		"\x08\x02x\x00\x00\x00\x00\x00":                                                                {Kind: api.Rename, Path: "x"},
		"\x0a\x04/f\x00\x02\x06\x00\x00":                                                               {Kind: api.AddBlock, Path: "/f", Client: 1, Call: 3},
		"\x0a\x04/f\x00\x02\x06\x00\x04\x0a\x80\x01":                                                   {Kind: api.AddBlock, Path: "/f", Client: 1, Call: 3, Lengths: []int{5, 64}},
		"\x0a\x04/f\x00\x02\x06\x00\x02\x00":                                                           {Kind: api.AddBlock, Path: "/f", Client: 1, Call: 3, Lengths: []int{0}},
		"\x0c\x04/f\x00\x02\x08\x00\x06\x02\x04\x06":                                                   {Kind: api.Complete, Path: "/f", Client: 1, Call: 4, Lengths: []int{1, 2, 3}},
		"\x0e\x04/d\x00\x00\x00\x01\x00":                                                               {Kind: api.SetQuota, Path: "/d", N: -1},
		"\x0e\x04/d\x00\x00\x00\x14\x00":                                                               {Kind: api.SetQuota, Path: "/d", N: 10},
		"\x10\x00\x00\x02\x04\x06\x00":                                                                 {Kind: api.Renew, Client: 1, Call: 2, N: 3},
		"\x12\x04/f\x00\x06\x0a\x0e\x00":                                                               {Kind: api.Bump, Path: "/f", Client: 3, Call: 5, N: 7},
		"\x14\x04/f\x00\x04\x0c\x00\x00":                                                               {Kind: api.Reopen, Path: "/f", Client: 2, Call: 6},
		"\x14\x06\x00\x80\xff\x00\x04\x0c\x00\x00":                                                     {Kind: api.Reopen, Path: "\x00\x80\xff", Client: 2, Call: 6},
		"\x02\xf0\x01" + long(120) + "\x00\x00\x00\x00\x00":                                            {Kind: api.MkDir, Path: long(120)},
		"\x08\x00\xf0\x01" + long(120) + "\x00\x00\x00\x00":                                            {Kind: api.Rename, To: long(120)},
		"\x02\x00\x00\x06\xfe\xff\xff\xff\xff\xff\xff\x1f\x00\x00":                                     {Kind: api.MkDir, Client: 3, Call: greatest},
		"\x10\x00\x00\x00\x00\xfe\xff\xff\xff\xff\xff\xff\x1f\x00":                                     {Kind: api.Renew, N: greatest},
		"\x0c\x00\x00\x00\x00\x00\x10\x00\x02\x04\x06\x08\x0a\x0c\xfe\xff\xff\xff\xff\xff\xff\x1f":     {Kind: api.Complete, Lengths: []int{0, 1, 2, 3, 4, 5, 6, greatest}},
		"\x0a\x00\x00\x00\x00\x00\x04\xfe\xff\xff\xff\xff\xff\xff\x1f\xfe\xff\xff\xff\xff\xff\xff\x1f": {Kind: api.AddBlock, Lengths: []int{greatest, greatest}},
	}
}

// P10.1: byte for byte, what stands one behind the other; and back.
func TestKnownBytes(t *testing.T) {
	tried := map[int]int{}
	for b, e := range known() {
		wantEncode(t, e, b)
		wantDecode(t, b, e)
		tried[e.Kind]++
	}
	if len(tried) != 10 {
		t.Errorf("not all kinds were tried: %v", tried)
	}
}

// P10.1: all that is right is laid so.
func TestEncode(t *testing.T) {
	for _, e := range rights() {
		wantEncode(t, e, laid(e))
	}
}

// P10.1, P2: what is not right has no bytes.
func TestEncodeNotRight(t *testing.T) {
	for what, e := range wrongs() {
		if b, bad := Encode(e); b != "" || bad != api.ErrArg {
			t.Errorf("Encode of %s = % .40x, %d, not ErrArg", what, b, bad)
		}
	}
}

// P5, P10.1: Lengths that are nil and that are empty are written alike.
func TestEncodeNoLengths(t *testing.T) {
	for _, kind := range kinds() {
		e := plain(kind)
		e.Lengths = nil
		want := encoded(t, e)
		e.Lengths = []int{}
		wantEncode(t, e, want)
		e.Lengths = make([]int, 0, 20)
		wantEncode(t, e, want)
	}
}

// P10.2: unlike edits have unlike bytes: those that differ in one thing, or that would be alike if two things could be told for each other.
func TestUnlike(t *testing.T) {
	owner := map[string]api.Edit{}
	put := func(e api.Edit) {
		b := encoded(t, e)
		if other, taken := owner[b]; taken && !same(e, other) {
			t.Errorf("%#v and %#v are both % x", e, other, b)
		}
		owner[b] = e
	}
	for _, e := range rights() {
		put(e)
	}
	for _, e := range known() {
		put(e)
	}
	texts := []string{"", "\x00", "\x00\x00", "\x02", "\x02\x00", "a", "aa", "\x02a", "a\x00", "a\x02a"}
	few := []int{0, 1, 2, 3, 64}
	for _, path := range texts {
		for _, to := range texts {
			put(api.Edit{Kind: api.Rename, Path: path, To: to})
		}
	}
	for _, kind := range kinds() {
		for client := range 4 {
			for _, call := range few {
				put(api.Edit{Kind: kind, Client: client, Call: call})
			}
		}
	}
	for _, n := range append(few, -1) {
		put(api.Edit{Kind: api.SetQuota, N: n})
		put(api.Edit{Kind: api.SetQuota, Call: max(n, 0), N: 1})
	}
	for _, a := range few {
		put(api.Edit{Kind: api.AddBlock, Lengths: []int{a}})
		for _, b := range few {
			put(api.Edit{Kind: api.AddBlock, Lengths: []int{a, b}})
			for _, c := range few {
				put(api.Edit{Kind: api.AddBlock, Lengths: []int{a, b, c}})
			}
		}
	}
	if len(owner) < 500 {
		t.Errorf("too little was tried: %d edits", len(owner))
	}
}

// The variadic function that writes numbers takes none, one, and more.
func TestNumbers(t *testing.T) {
	for want, l := range map[string][]int{
		"":                     {},
		"\x00":                 {0},
		"\x02\x01":             {1, -1},
		"\x80\x01\x00\x7f\x02": {64, 0, -64, 1},
	} {
		if got := numbers(l...); got != want {
			t.Errorf("numbers(%v) = % x, not % x", l, got, want)
		}
	}
}
