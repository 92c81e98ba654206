package edit

import (
	"encoding/binary"
	"math"
	"slices"
	"strconv"
	"strings"
	"testing"

	"tabularium/api"
)

const greatest = 1<<53 - 1 // MaxNumber

// kinds: all of them, MkDir to Reopen.
func kinds() []int {
	return []int{api.MkDir, api.Create, api.Delete, api.Rename, api.AddBlock, api.Complete, api.SetQuota, api.Renew, api.Bump, api.Reopen}
}

// butOf: all kinds but these.
func butOf(some ...int) []int {
	return slices.DeleteFunc(kinds(), func(k int) bool { return slices.Contains(some, k) })
}

// plain: an edit of that kind with nothing that only some kinds may have.
func plain(kind int) api.Edit {
	return api.Edit{Kind: kind, Path: "/a/b", Client: 1, Call: 7}
}

func withPath(e api.Edit, path string) api.Edit       { e.Path = path; return e }
func withTo(e api.Edit, to string) api.Edit           { e.To = to; return e }
func withClient(e api.Edit, client int) api.Edit      { e.Client = client; return e }
func withCall(e api.Edit, call int) api.Edit          { e.Call = call; return e }
func withN(e api.Edit, n int) api.Edit                { e.N = n; return e }
func withLengths(e api.Edit, lengths ...int) api.Edit { e.Lengths = lengths; return e }

func long(n int) string { return strings.Repeat("p", n) }

// rights: edits that are right, by what they are at an edge of.
func rights() map[string]api.Edit {
	all := map[string]api.Edit{}
	put := func(what string, e api.Edit) { all[what+" of kind "+strconv.Itoa(e.Kind)] = e }
	for _, kind := range kinds() {
		e := plain(kind)
		put("plain", e)
		put("nothing else", api.Edit{Kind: kind})
		put("no path", withPath(e, ""))
		put("a path of MaxPath bytes", withPath(e, long(120)))
		put("a path that is none", withPath(e, "a//\x00\xff\x80.."))
		put("client 0", withClient(e, 0))
		put("the last client", withClient(e, 3))
		put("call 0", withCall(e, 0))
		put("the greatest call", withCall(e, greatest))
		put("n 0", withN(e, 0))
		put("empty lengths", withLengths(e, []int{}...))
		e.Lengths = []int{}
		put("lengths that are not nil", e)
	}
	for _, to := range []string{"/", "/x/y", "no path\xff", "\x00", long(119), long(120)} {
		put("to of "+to, withTo(plain(api.Rename), to))
		put("to alone of "+to, api.Edit{Kind: api.Rename, To: to})
	}
	put("n -1", withN(plain(api.SetQuota), -1))
	for _, kind := range []int{api.SetQuota, api.Renew, api.Bump} {
		for _, n := range []int{1, 63, 64, greatest - 1, greatest} {
			put("n "+strconv.Itoa(n), withN(plain(kind), n))
		}
	}
	for _, kind := range []int{api.AddBlock, api.Complete} {
		e := plain(kind)
		put("MaxBlocks lengths", withLengths(e, make([]int, 8)...))
		put("MaxBlocks greatest lengths", withLengths(e, slices.Repeat([]int{greatest}, 8)...))
		put("unlike lengths", withLengths(e, 5, 0, 64, 63, 8191, 8192, greatest, 1))
		for _, n := range []int{0, 1, 64, 65, greatest - 1, greatest} {
			put("a length of "+strconv.Itoa(n), withLengths(e, n))
			put("last a length of "+strconv.Itoa(n), withLengths(e, 3, 4, n))
		}
	}
	return all
}

// wrongs: edits that are not; beyond each edge there is one at least that would be right but for that.
func wrongs() map[string]api.Edit {
	all := map[string]api.Edit{"nothing": {}}
	put := func(what string, e api.Edit) { all[what+" of kind "+strconv.Itoa(e.Kind)] = e }
	for _, kind := range []int{0, -1, 11, 12, -2, math.MinInt, math.MaxInt, 1 << 32, 1<<32 + 1, -1 << 32} {
		put("no kind", plain(kind))
	}
	for _, kind := range kinds() {
		e := plain(kind)
		put("a path of one byte more", withPath(e, long(121)))
		put("a very long path", withPath(e, long(100000)))
		put("a to of one byte more", withTo(e, long(121)))
		put("a very long to", withTo(e, long(100000)))
		for _, client := range []int{-1, 4, -2, 5, math.MinInt, math.MaxInt, 1 << 32, 1<<32 + 1} {
			put("client "+strconv.Itoa(client), withClient(e, client))
		}
		for _, n := range []int{-1, greatest + 1, -2, greatest + 2, math.MinInt, math.MaxInt, -greatest} {
			put("call "+strconv.Itoa(n), withCall(e, n))
			put("a length of "+strconv.Itoa(n), withLengths(e, n))
			put("first a length of "+strconv.Itoa(n), withLengths(e, n, 3, 4))
			put("last a length of "+strconv.Itoa(n), withLengths(e, 3, 4, 5, 6, 7, 8, 9, n))
			if kind != api.SetQuota || n != -1 {
				put("n "+strconv.Itoa(n), withN(e, n))
			}
		}
		put("one length too many", withLengths(e, make([]int, 9)...))
		put("very many lengths", withLengths(e, make([]int, 100000)...))
	}
	for _, kind := range butOf(api.Rename) {
		put("a to", withTo(plain(kind), "/"))
		put("a to of MaxPath bytes", withTo(plain(kind), long(120)))
	}
	for _, kind := range butOf(api.SetQuota, api.Renew, api.Bump) {
		put("n 1", withN(plain(kind), 1))
		put("the greatest n", withN(plain(kind), greatest))
	}
	for _, kind := range butOf(api.AddBlock, api.Complete) {
		put("a length of 0", withLengths(plain(kind), 0))
		put("a length of 1", withLengths(plain(kind), 1))
		put("MaxBlocks lengths", withLengths(plain(kind), make([]int, 8)...))
	}
	return all
}

// laid: the bytes of an edit, right or not, by the words of P10.1; the library writes numbers as chapter 1 does.
func laid(e api.Edit) string {
	out := binary.AppendVarint(nil, int64(e.Kind))
	for _, s := range []string{e.Path, e.To} {
		out = append(binary.AppendVarint(out, int64(len(s))), s...)
	}
	for _, n := range append([]int{e.Client, e.Call, e.N, len(e.Lengths)}, e.Lengths...) {
		out = binary.AppendVarint(out, int64(n))
	}
	return string(out)
}

// same: are all fields alike? Lengths of nothing may be nil or empty.
func same(a, b api.Edit) bool {
	return a.Kind == b.Kind && a.Path == b.Path && a.To == b.To && a.Client == b.Client && a.Call == b.Call && a.N == b.N && slices.Equal(a.Lengths, b.Lengths)
}

// encoded: Encode of what must have one.
func encoded(t *testing.T, e api.Edit) string {
	t.Helper()
	b, bad := Encode(e)
	if bad != api.OK {
		t.Fatalf("Encode(%#v): %d", e, bad)
	}
	return b
}

func wantEncode(t *testing.T, e api.Edit, want string) {
	t.Helper()
	if b, bad := Encode(e); b != want || bad != api.OK {
		t.Errorf("Encode(%#v) = % x, %d, not % x", e, b, bad, want)
	}
}

func wantDecode(t *testing.T, b string, want api.Edit) {
	t.Helper()
	if e, bad := Decode(b); !same(e, want) || bad != api.OK {
		t.Errorf("Decode(% x) = %#v, %d, not %#v", b, e, bad, want)
	}
}

// refused: ErrForm, and an edit of nothing.
func refused(t *testing.T, b string) {
	t.Helper()
	if e, bad := Decode(b); !same(e, api.Edit{}) || bad != api.ErrForm {
		t.Errorf("Decode(% .40x) = %#v, %d, not ErrForm", b, e, bad)
	}
}

// P10.1: Right, at each edge of what is right.
func TestRight(t *testing.T) {
	for what, e := range rights() {
		if !Right(e) {
			t.Errorf("%s is not right", what)
		}
	}
}

// P10.1, P6: Right, beyond each of these edges.
func TestNotRight(t *testing.T) {
	for what, e := range wrongs() {
		if Right(e) {
			t.Errorf("%s is right", what)
		}
	}
}

// P10.1: Kind is MkDir to Reopen.
func TestRightKinds(t *testing.T) {
	for kind := -300; kind <= 300; kind++ {
		if got, want := Right(plain(kind)), kind >= 1 && kind <= 10; got != want {
			t.Errorf("kind %d: %v", kind, got)
		}
	}
}

// P10.1: N is -1 to MaxNumber of SetQuota, 0 to MaxNumber of Renew and Bump, 0 of all others.
func TestRightN(t *testing.T) {
	for _, n := range []int{math.MinInt, -greatest, -2, -1, 0, 1, 2, greatest, greatest + 1, math.MaxInt} {
		for _, kind := range kinds() {
			want := n == 0
			switch kind {
			case api.SetQuota:
				want = n >= -1 && n <= greatest
			case api.Renew, api.Bump:
				want = n >= 0 && n <= greatest
			}
			if got := Right(withN(plain(kind), n)); got != want {
				t.Errorf("n %d of kind %d: %v", n, kind, got)
			}
		}
	}
}

// P10.1: To is empty but of Rename, and has at most MaxPath bytes.
func TestRightTo(t *testing.T) {
	for n := range 130 {
		for _, kind := range kinds() {
			want := n == 0 || kind == api.Rename && n <= 120
			if got := Right(withTo(plain(kind), long(n))); got != want {
				t.Errorf("a to of %d bytes of kind %d: %v", n, kind, got)
			}
			if got := Right(withPath(plain(kind), long(n))); got != (n <= 120) {
				t.Errorf("a path of %d bytes of kind %d: %v", n, kind, got)
			}
		}
	}
}

// P10.1: Lengths, of AddBlock and Complete alone: at most MaxBlocks, and none that is wrong, wherever it stands.
func TestRightLengths(t *testing.T) {
	for many := range 12 {
		for _, kind := range kinds() {
			mayHave := kind == api.AddBlock || kind == api.Complete
			l := make([]int, many)
			if got, want := Right(withLengths(plain(kind), l...)), many == 0 || mayHave && many <= 8; got != want {
				t.Errorf("%d lengths of kind %d: %v", many, kind, got)
			}
			for i := range l {
				for _, n := range []int{math.MinInt, -1, 0, 1, 64, 65, greatest, greatest + 1, math.MaxInt} {
					l[i] = n
					want := mayHave && many <= 8 && n >= 0 && n <= greatest
					if got := Right(withLengths(plain(kind), l...)); got != want {
						t.Errorf("length %d of %d is %d, of kind %d: %v", i, many, n, kind, got)
					}
				}
				l[i] = 0
			}
		}
	}
}
