package path

import (
	"fmt"
	"slices"
	"strings"
	"testing"

	"tabularium/api"
)

const letters = "abcdefghijklmnopqrstuvwxyz0123456789._-" // all that a name may have

// x: a name of n bytes.
func x(n int) string {
	return strings.Repeat("x", n)
}

// deep: a path of so many names.
func deep(names int) string {
	return strings.Repeat("/d", names)
}

// long: a path of so many bytes, 22 to 126 of them, whose names are as long as they may be, but for the last two.
func long(bytes int) string {
	var p strings.Builder
	for bytes-p.Len() > 42 {
		p.WriteString("/" + x(20))
	}
	rest := bytes - p.Len() - 2
	return p.String() + "/" + x(rest/2) + "/" + x(rest-rest/2)
}

// noPaths: texts that are none, and which error Split tells of each.
func noPaths() map[string]api.Errno {
	return map[string]api.Errno{
		"":                  api.ErrArg,
		"a":                 api.ErrArg,
		"ab":                api.ErrArg,
		"abc":               api.ErrArg,
		"a/b":               api.ErrArg,
		"ab/c":              api.ErrArg,
		"\\ab":              api.ErrArg,
		"\x00ab":            api.ErrArg,
		" /a":               api.ErrArg,
		"/a/":               api.ErrArg,
		"/a/b/":             api.ErrArg,
		"//":                api.ErrArg,
		"///":               api.ErrArg,
		"//a":               api.ErrArg,
		"/a//b":             api.ErrArg,
		"/a//":              api.ErrArg,
		"/.":                api.ErrArg,
		"/..":               api.ErrArg,
		"/./a":              api.ErrArg,
		"/a/..":             api.ErrArg,
		"/a/./b":            api.ErrArg,
		"/a/../b":           api.ErrArg,
		"/A":                api.ErrArg,
		"/a b":              api.ErrArg,
		"/a\\b":             api.ErrArg,
		"/a\x00":            api.ErrArg,
		"/a/\xff":           api.ErrArg,
		"/ä":                api.ErrArg,
		"/a\n":              api.ErrArg,
		"\n/a":              api.ErrArg,
		"/" + x(21):         api.ErrArg,
		"/a/" + x(21):       api.ErrArg,
		"/" + x(21) + "/a":  api.ErrArg,
		x(120):              api.ErrArg,
		deep(7):             api.ErrLong,
		deep(8):             api.ErrLong,
		deep(60):            api.ErrLong,
		long(121):           api.ErrLong,
		long(126):           api.ErrLong,
		deep(61):            api.ErrLong,
		deep(100000):        api.ErrLong,
		"/" + x(1000000):    api.ErrLong,
		x(121):              api.ErrLong, // no path, and too long: the latter is told first
		deep(60) + "/":      api.ErrLong,
		"\x00" + deep(60):   api.ErrLong,
		deep(7) + "/":       api.ErrArg, // no path, and too deep: the former is told first
		deep(7) + "/..":     api.ErrArg,
		deep(6) + "//d":     api.ErrArg,
		"/" + deep(7):       api.ErrArg,
		"d" + deep(7):       api.ErrArg,
		deep(20) + "/D/d":   api.ErrArg,
		deep(59) + "//":     api.ErrArg,
		deep(59) + "/D":     api.ErrArg,
		"/." + deep(59):     api.ErrArg,
		"/" + x(21) + "/..": api.ErrArg,
	}
}

// paths: texts that are such, and their names.
func paths() map[string][]string {
	return map[string][]string{
		"/":                       nil,
		"/a":                      {"a"},
		"/a/b":                    {"a", "b"},
		"/b/a":                    {"b", "a"},
		"/a/a/a":                  {"a", "a", "a"},
		"/...":                    {"..."},
		"/.a/a./..a/a..":          {".a", "a.", "..a", "a.."},
		"/_/-/0/9":                {"_", "-", "0", "9"},
		"/a/b.c_d-9":              {"a", "b.c_d-9"},
		"/" + x(20):               {x(20)},
		"/" + x(20) + "/" + x(20): {x(20), x(20)},
		deep(5):                   {"d", "d", "d", "d", "d"},
		deep(6):                   {"d", "d", "d", "d", "d", "d"},
		long(119):                 {x(20), x(20), x(20), x(20), x(16), x(17)},
		long(120):                 {x(20), x(20), x(20), x(20), x(17), x(17)},
	}
}

func wantName(t *testing.T, s string, ok bool) {
	t.Helper()
	if Name(s) != ok {
		t.Errorf("Name(%.40q) = %v", s, !ok)
	}
}

func wantSplit(t *testing.T, p string, names []string, e api.Errno) {
	t.Helper()
	if l, got := Split(p); !slices.Equal(l, names) || got != e {
		t.Errorf("Split(%.140q) = %q, %d, not %q, %d", p, l, got, names, e)
	}
}

func wantJoin(t *testing.T, names []string, p string, e api.Errno) {
	t.Helper()
	if s, got := Join(names); s != p || got != e {
		t.Errorf("Join(%.200q) = %q, %d, not %q, %d", names, s, got, p, e)
	}
}

func wantParent(t *testing.T, p, dir, name string, e api.Errno) {
	t.Helper()
	if d, n, got := Parent(p); d != dir || n != name || got != e {
		t.Errorf("Parent(%.140q) = %q, %q, %d, not %q, %q, %d", p, d, n, got, dir, name, e)
	}
}

func wantUnder(t *testing.T, a, b string, ok bool) {
	t.Helper()
	if Under(a, b) != ok {
		t.Errorf("Under(%.140q, %.140q) = %v", a, b, !ok)
	}
}

func wantMove(t *testing.T, p, from, to, moved string, e api.Errno) {
	t.Helper()
	if s, got := Move(p, from, to); s != moved || got != e {
		t.Errorf("Move(%.140q, %.140q, %.140q) = %q, %d, not %q, %d", p, from, to, s, got, moved, e)
	}
}

// P6.1: a name has 1 to 20 bytes.
func TestNameLength(t *testing.T) {
	for n := range 200 {
		wantName(t, x(n), n >= 1 && n <= 20)
	}
	wantName(t, x(1000000), false)
	wantName(t, letters[:20], true)
	wantName(t, letters[19:], true)
	wantName(t, letters[:21], false)
	wantName(t, letters[18:], false)
}

// P6.1: each byte, alone and at each place of a name, is of a name or not; `.` alone and twice is none.
func TestNameBytes(t *testing.T) {
	for b := range 256 {
		c := string([]byte{byte(b)})
		ok := strings.Contains(letters, c)
		wantName(t, c, ok && c != ".")
		wantName(t, c+c, ok && c != ".")
		for at := range 20 {
			wantName(t, x(at)+c+x(19-at), ok)
		}
	}
}

// P6.1: `.` and `..` are no names; what has them inside is.
func TestNameDots(t *testing.T) {
	for n := range 22 {
		wantName(t, strings.Repeat(".", n), n >= 3 && n <= 20)
	}
	for _, s := range []string{".a", "a.", "..a", "a..", ".-", "._.", "a.b"} {
		wantName(t, s, true)
	}
	for _, s := range []string{"/", "a/b", "/a", "a/", "ä", "é", "\u00e9", "ａ", "a\x00", " a", "a ", "A", "aB", "\xff", "a\xc3"} {
		wantName(t, s, false)
	}
}

// P6.1: the names of a path, up to 6 of them and 120 bytes, none of `/`.
func TestSplit(t *testing.T) {
	for p, names := range paths() {
		wantSplit(t, p, names, api.OK)
	}
}

// P6.1: what is no path is refused: bytes in all first, then its form, then its depth.
func TestSplitRefuses(t *testing.T) {
	for p, e := range noPaths() {
		wantSplit(t, p, nil, e)
	}
}

// P6.1: each length of a path to 126 bytes, and each depth to 70 names.
func TestSplitEdges(t *testing.T) {
	if n, d := len(long(120)), len(long(121)); n != 120 || d != 121 {
		t.Fatal("the test's own paths are of", n, "and", d, "bytes")
	}
	for n := 22; n <= 126; n++ {
		l, e := Split(long(n))
		if n <= 120 && (e != api.OK || "/"+strings.Join(l, "/") != long(n)) || n > 120 && (e != api.ErrLong || len(l) != 0) {
			t.Errorf("Split of %d bytes: %q, %d", n, l, e)
		}
	}
	for n := 1; n <= 70; n++ {
		l, e := Split(deep(n))
		if n <= 6 && (e != api.OK || len(l) != n) || n > 6 && (e != api.ErrLong || len(l) != 0) {
			t.Errorf("Split of %d names: %q, %d", n, l, e)
		}
	}
}

// P6.1: what is a name by Name, and nothing else, is one in a path, with each byte but `/` at each place.
func TestSplitAsksName(t *testing.T) {
	for b := range 256 {
		if b == '/' {
			continue // it makes two names of one: TestSplitRefuses has these
		}
		c := string([]byte{byte(b)})
		for _, s := range []string{c, c + c, "x" + c, c + "x", x(19) + c, x(20) + c} {
			e := api.ErrArg
			if Name(s) {
				e = api.OK
			}
			for _, p := range []string{"/" + s, "/a/" + s, "/" + s + "/a"} {
				if _, got := Split(p); got != e {
					t.Errorf("Split(%q): error %d, not %d", p, got, e)
				}
			}
		}
	}
}

// P6.1: the path of names.
func TestJoin(t *testing.T) {
	for p, names := range paths() {
		wantJoin(t, names, p, api.OK)
	}
	wantJoin(t, nil, "/", api.OK)
	wantJoin(t, []string{}, "/", api.OK)
}

// P6.1: with one that is no name, wherever it stands, there is no path.
func TestJoinRefuses(t *testing.T) {
	for _, bad := range []string{"", ".", "..", "/", "a/b", "/a", "A", "a b", "\x00", "\xff", "ä", x(21), x(1000000)} {
		wantJoin(t, []string{bad}, "", api.ErrArg)
		for at := range 6 {
			names := []string{"a", "b", "c", "d", "e", "f"}
			names[at] = bad
			wantJoin(t, names, "", api.ErrArg)
		}
	}
	wantJoin(t, []string{"", ""}, "", api.ErrArg)
}

// P6.1: 6 names and 120 bytes make a path, one more of either makes none; what is no name is told first.
func TestJoinEdges(t *testing.T) {
	for n := range 70 {
		names := slices.Repeat([]string{"d"}, n)
		if n >= 1 && n <= 6 {
			wantJoin(t, names, deep(n), api.OK)
		} else if n > 6 {
			wantJoin(t, names, "", api.ErrLong)
			wantJoin(t, append(names, ".."), "", api.ErrArg)
			wantJoin(t, append([]string{"D"}, names...), "", api.ErrArg)
		}
	}
	for n := 22; n <= 126; n++ {
		names := strings.Split(long(n)[1:], "/")
		if n <= 120 {
			wantJoin(t, names, long(n), api.OK)
		} else {
			wantJoin(t, names, "", api.ErrLong)
		}
	}
	wantJoin(t, []string{x(20), x(20), x(20), x(20), x(20), x(20)}, "", api.ErrLong)
	wantJoin(t, []string{x(20), x(20), x(20), x(20), x(20), x(21)}, "", api.ErrArg)
	wantJoin(t, slices.Repeat([]string{"d"}, 100000), "", api.ErrLong)
	wantJoin(t, append(slices.Repeat([]string{"d"}, 100000), ""), "", api.ErrArg)
}

// P6.2: all names but the last one, and the last one.
func TestParent(t *testing.T) {
	wantParent(t, "/a", "/", "a", api.OK)
	wantParent(t, "/a/b", "/a", "b", api.OK)
	wantParent(t, "/a/b/a", "/a/b", "a", api.OK)
	wantParent(t, "/a/a", "/a", "a", api.OK)
	wantParent(t, "/...", "/", "...", api.OK)
	wantParent(t, deep(6), deep(5), "d", api.OK)
	wantParent(t, long(120), long(120)[:102], x(17), api.OK)
	wantParent(t, "/"+x(20), "/", x(20), api.OK)
}

// P6.2: the root stands nowhere; what is no path is refused as Split does.
func TestParentRefuses(t *testing.T) {
	wantParent(t, "/", "", "", api.ErrArg)
	for p, e := range noPaths() {
		wantParent(t, p, "", "", e)
	}
}

// P6.2: b is under a, if it is the same or below it, name by name.
func TestUnder(t *testing.T) {
	for p := range paths() {
		wantUnder(t, "/", p, true)
		wantUnder(t, p, p, true)
		wantUnder(t, p, "/", p == "/")
	}
	for _, c := range []struct {
		a, b string
		ok   bool
	}{
		{"/a", "/a/b", true},
		{"/a", "/a/b/c", true},
		{"/a/b", "/a/b/c", true},
		{"/a", "/a/a", true},
		{"/a", "/ab", false},
		{"/a", "/ab/c", false},
		{"/ab", "/a", false},
		{"/ab", "/a/b", false},
		{"/a/b", "/a", false},
		{"/a/b", "/ab", false},
		{"/a/b", "/a/bc", false},
		{"/a/b", "/a/c", false},
		{"/a/b", "/c/b", false},
		{"/b", "/a/b", false},
		{"/a", "/b", false},
		{"/a/b/c", "/a/x/c", false},
		{"/a/b/c", "/x/b/c", false},
		{"/a", "/b/a", false},
		{deep(5), deep(6), true},
		{deep(6), deep(5), false},
		{long(120)[:102], long(120), true},
	} {
		wantUnder(t, c.a, c.b, c.ok)
	}
}

// P6.2: what is no path is under nothing, not under itself, and nothing is under it.
func TestUnderNoPath(t *testing.T) {
	for p := range noPaths() {
		wantUnder(t, p, p, false)
		for good := range paths() {
			wantUnder(t, good, p, false)
			wantUnder(t, p, good, false)
		}
	}
	wantUnder(t, "/a", "/a/", false)
	wantUnder(t, "/a/", "/a/b", false)
	wantUnder(t, "/d", deep(7), false)
	wantUnder(t, long(120)[:21], long(121), false)
}

// P6.2: what stands behind from's names stands behind to's.
func TestMove(t *testing.T) {
	wantMove(t, "/a/b/c", "/a", "/x", "/x/b/c", api.OK)
	wantMove(t, "/a/b/c", "/a/b", "/x", "/x/c", api.OK)
	wantMove(t, "/a/b/c", "/a", "/x/y", "/x/y/b/c", api.OK)
	wantMove(t, "/a/b", "/a", "/a", "/a/b", api.OK)
	wantMove(t, "/a/b", "/a", "/a/b", "/a/b/b", api.OK)
	wantMove(t, "/a/b", "/a", "/", "/b", api.OK)
	wantMove(t, "/a/b", "/", "/x", "/x/a/b", api.OK)
	wantMove(t, "/a/b", "/", "/", "/a/b", api.OK)
	wantMove(t, "/a/a/a", "/a", "/b", "/b/a/a", api.OK)
	wantMove(t, "/a/a/a", "/a/a", "/b", "/b/a", api.OK)
}

// P6.2: from itself becomes to.
func TestMoveSame(t *testing.T) {
	for p := range paths() {
		for to := range paths() {
			wantMove(t, p, p, to, to, api.OK)
		}
		wantMove(t, p, "/", "/", p, api.OK)
	}
}

// P6.2: p that is not under from, from and to that are no paths: ErrArg, of each alone and together, also where they are too long or too deep themselves.
func TestMoveRefuses(t *testing.T) {
	for _, c := range [][2]string{{"/b", "/a"}, {"/ab", "/a"}, {"/a", "/ab"}, {"/a", "/a/b"}, {"/", "/a"}, {"/b/a", "/a"}, {deep(5), deep(6)}} {
		wantMove(t, c[0], c[1], "/x", "", api.ErrArg)
		wantMove(t, c[0], c[1], c[1], "", api.ErrArg)
		wantMove(t, c[0], c[1], long(120), "", api.ErrArg)
		wantMove(t, c[0], c[1], long(121), "", api.ErrArg)
	}
	for bad := range noPaths() {
		wantMove(t, bad, "/", "/x", "", api.ErrArg)
		wantMove(t, bad, bad, "/x", "", api.ErrArg)
		wantMove(t, "/a", bad, "/x", "", api.ErrArg)
		wantMove(t, "/", bad, "/x", "", api.ErrArg)
		wantMove(t, "/a", "/a", bad, "", api.ErrArg)
		wantMove(t, "/a/b", "/a", bad, "", api.ErrArg)
		wantMove(t, deep(6), "/", bad, "", api.ErrArg)
		wantMove(t, bad, bad, bad, "", api.ErrArg)
	}
}

// P6.2: a place at which the path would be too deep or too long is refused as too long; one just at the edge is not.
func TestMoveEdges(t *testing.T) {
	wantMove(t, "/a/b/c", "/a", deep(4), deep(4)+"/b/c", api.OK)
	wantMove(t, "/a/b/c", "/a", deep(5), "", api.ErrLong)
	wantMove(t, "/a/b/c/d/e", "/a", "/x/y", "/x/y/b/c/d/e", api.OK)
	wantMove(t, "/a/b/c/d/e", "/a", "/x/y/z", "", api.ErrLong)
	wantMove(t, "/a", "/", deep(5), deep(5)+"/a", api.OK)
	wantMove(t, "/a", "/", deep(6), "", api.ErrLong)
	wantMove(t, deep(6), "/", deep(6), "", api.ErrLong)
	wantMove(t, deep(6), "/", "/x", "", api.ErrLong)
	wantMove(t, deep(6), "/d", deep(2), "", api.ErrLong)
	wantMove(t, deep(6), "/d", "/x", "/x"+deep(5), api.OK)

	three := "/" + x(20) + "/" + x(20) + "/" + x(20) // 63 bytes
	wantMove(t, "/a"+three, "/a", "/"+x(20)+"/"+x(20)+"/"+x(14), "/"+x(20)+"/"+x(20)+"/"+x(14)+three, api.OK)
	wantMove(t, "/a"+three, "/a", "/"+x(20)+"/"+x(20)+"/"+x(15), "", api.ErrLong)
	wantMove(t, long(120), "/"+x(20), "/"+x(19), "/"+x(19)+long(120)[21:], api.OK)
	wantMove(t, long(120)[:119], "/"+x(20), "/"+x(20), long(120)[:119], api.OK)
	wantMove(t, "/a"+long(120)[21:], "/a", "/"+x(20), long(120), api.OK)
	wantMove(t, "/a"+long(121)[21:], "/a", "/"+x(20), "", api.ErrLong)
	wantMove(t, "/a/b", "/a", long(120), "", api.ErrLong)
}

// P6.3: Join of Split is the path.
func TestJoinOfSplit(t *testing.T) {
	for p := range paths() {
		l, e := Split(p)
		if e != api.OK {
			t.Errorf("Split(%q): error %d", p, e)
		}
		wantJoin(t, l, p, api.OK)
	}
}

// P6.3: what is under something that is under another thing is under that; and what Parent and Move follow from it.
func TestUnderOfUnder(t *testing.T) {
	all := []string{"/"}
	for from := 0; len(all) < 200; from++ {
		for _, name := range []string{"a", "ab", "b"} {
			if p := strings.TrimSuffix(all[from], "/") + "/" + name; strings.Count(p, "/") <= 6 {
				all = append(all, p)
			}
		}
	}
	for _, a := range all {
		for _, b := range all {
			if !Under(a, b) {
				continue
			}
			if Under(b, a) != (a == b) {
				t.Errorf("%q and %q are under each other", a, b)
			}
			if dir, _, e := Parent(b); e == api.OK && a != b {
				wantUnder(t, a, dir, true)
			}
			wantMove(t, b, a, a, b, api.OK)
			for _, c := range all {
				if Under(b, c) {
					wantUnder(t, a, c, true)
				}
			}
		}
	}
}

// The chapter's examples.
func TestExamples(t *testing.T) {
	wantSplit(t, "/a/b", []string{"a", "b"}, api.OK)
	wantSplit(t, "/a/", nil, api.ErrArg)
	wantSplit(t, "/..", nil, api.ErrArg)
	wantMove(t, "/a/b/c", "/a", "/x/y", "/x/y/b/c", api.OK)
}

// P3: what Join is handed is not written into, nor what stands behind it in its array.
func TestJoinWritesNothing(t *testing.T) {
	room := []string{"a", "b", "c", "..", "e", "f", "g", "h"}
	was := slices.Clone(room)
	for n := range len(room) + 1 {
		Join(room[:n])
		Join(room[n:])
		Join(room[:n:n])
		if !slices.Equal(room, was) {
			t.Fatalf("Join of %d wrote: %q", n, room)
		}
	}
}

// P3: what was answered stands, whatever is done behind it: with the list, with its spare room, by later calls.
func TestAnswersStand(t *testing.T) {
	first, _ := Split("/a/b/c")
	second, _ := Split("/a/b/c")
	for i := range first[:cap(first)] {
		first[:cap(first)][i] = "x"
	}
	if !slices.Equal(second, []string{"a", "b", "c"}) {
		t.Errorf("a list of another answer was written into: %q", second)
	}
	joined, _ := Join(second)
	dir, name, _ := Parent("/a/b/c")
	moved, _ := Move("/a/b/c", "/a", "/x/y")
	spare := second[:cap(second)]
	for i := range spare {
		spare[i] = fmt.Sprint("y", i)
	}
	wantSplit(t, "/a/b/c", []string{"a", "b", "c"}, api.OK)
	wantParent(t, "/d/e", "/d", "e", api.OK)
	wantMove(t, "/d/e", "/d", "/f", "/f/e", api.OK)
	wantJoin(t, []string{"q", "r", "s"}, "/q/r/s", api.OK)
	if joined != "/a/b/c" || dir != "/a/b" || name != "c" || moved != "/x/y/b/c" {
		t.Errorf("answers changed: %q, %q, %q, %q", joined, dir, name, moved)
	}
	names := []string{"a", "b"}
	p, _ := Join(names)
	names[0] = "z"
	if p != "/a/b" {
		t.Errorf("a path changed with the list that it was made of: %q", p)
	}
}

// P4: the same is answered to the same, whatever was asked and refused between.
func TestKeepsNothing(t *testing.T) {
	for p, names := range paths() {
		for bad, e := range noPaths() {
			wantSplit(t, p, names, api.OK)
			wantSplit(t, bad, nil, e)
			wantJoin(t, names, p, api.OK)
		}
	}
}
