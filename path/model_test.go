package path

import (
	"math/rand/v2"
	"regexp"
	"slices"
	"strings"
	"testing"

	"tabularium/api"
)

// The model takes paths as texts, which it never cuts to go through their names: their form is a regular expression's, and what stands under what is told by how the texts begin.
var (
	modelName = regexp.MustCompile(`\A[a-z0-9._-]{1,20}\z`)
	modelPath = regexp.MustCompile(`\A(/[a-z0-9._-]{1,20})+\z`)
	modelDots = regexp.MustCompile(`/\.{1,2}(/|\z)`)
)

func modelIsName(s string) bool {
	return modelName.MatchString(s) && s != "." && s != ".."
}

func modelError(p string) api.Errno {
	switch {
	case len(p) > 120:
		return api.ErrLong
	case p == "/":
		return api.OK
	case !modelPath.MatchString(p) || modelDots.MatchString(p):
		return api.ErrArg
	case strings.Count(p, "/") > 6:
		return api.ErrLong
	}
	return api.OK
}

func modelUnder(a, b string) bool {
	return modelError(a) == api.OK && modelError(b) == api.OK && strings.HasPrefix(strings.TrimSuffix(b, "/")+"/", strings.TrimSuffix(a, "/")+"/")
}

func modelMove(p, from, to string) (string, api.Errno) {
	if !modelUnder(from, p) || modelError(to) != api.OK {
		return "", api.ErrArg
	}
	moved := strings.TrimSuffix(to, "/") + strings.TrimPrefix(strings.TrimSuffix(p, "/"), strings.TrimSuffix(from, "/"))
	if moved == "" {
		moved = "/"
	}
	if modelError(moved) != api.OK {
		return "", api.ErrLong
	}
	return moved, api.OK
}

func modelJoin(names []string) (string, api.Errno) {
	if slices.ContainsFunc(names, func(s string) bool { return !modelIsName(s) }) {
		return "", api.ErrArg
	}
	p := "/" + strings.Join(names, "/")
	if modelError(p) != api.OK {
		return "", api.ErrLong
	}
	return p, api.OK
}

// hold asks every call of three texts, and the model the same.
func hold(t *testing.T, p, from, to string) {
	t.Helper()
	wantName(t, p, modelIsName(p))
	e := modelError(p)
	switch {
	case e != api.OK:
		wantSplit(t, p, nil, e)
		wantParent(t, p, "", "", e)
	case p == "/":
		wantSplit(t, p, nil, api.OK)
		wantParent(t, p, "", "", api.ErrArg)
	default:
		wantSplit(t, p, strings.Split(p[1:], "/"), api.OK)
		last := strings.LastIndexByte(p, '/')
		wantParent(t, p, p[:max(last, 1)], p[last+1:], api.OK)
	}
	wantUnder(t, from, p, modelUnder(from, p))
	moved, e := modelMove(p, from, to)
	wantMove(t, p, from, to, moved, e)
	for _, names := range [][]string{strings.Split(p, "/"), strings.Split(strings.TrimPrefix(p, "/"), "/"), {p, from, to}} {
		joined, e := modelJoin(names)
		wantJoin(t, names, joined, e)
	}
}

// randomPath is most often a path, or nearly one.
func randomPath(r *rand.Rand) string {
	pieces := []string{"a", "b", "ab", "x.y", "...", "-_9", x(20), x(19), x(17), x(16)}
	odd := []string{"", ".", "..", "A", x(21), "a b", "/", "\xff"}
	var p strings.Builder
	for range r.IntN(8) {
		p.WriteByte('/')
		if r.IntN(25) == 0 {
			p.WriteString(odd[r.IntN(len(odd))])
		} else {
			p.WriteString(pieces[r.IntN(1+r.IntN(len(pieces)))])
		}
	}
	if p.Len() == 0 && r.IntN(5) > 0 {
		return "/"
	}
	if r.IntN(25) == 0 {
		return strings.TrimPrefix(p.String(), "/")
	}
	return p.String()
}

// P6.1, P6.2: as the model answers, of many paths, some of which begin alike.
func TestAgainstModel(t *testing.T) {
	r := rand.New(rand.NewPCG(6, 6))
	asked := map[api.Errno]int{}
	for range 100000 {
		p, from, to := randomPath(r), randomPath(r), randomPath(r)
		if r.IntN(2) == 0 {
			from = p[:r.IntN(len(p)+1)]
		}
		hold(t, p, from, to)
		_, e := modelMove(p, from, to)
		asked[e]++
		if t.Failed() {
			return
		}
	}
	for _, e := range []api.Errno{api.OK, api.ErrArg, api.ErrLong} {
		if asked[e] < 1000 {
			t.Errorf("only %d moves with error %d were tried", asked[e], e)
		}
	}
}

func FuzzPath(f *testing.F) {
	f.Add("/a/b/c", "/a", "/x/y")
	f.Add("/", "/", "/")
	f.Add("/ab", "/a", "a")
	f.Add("/a/../b", "/a/", "//")
	f.Add(long(120), long(120)[:21], long(121))
	f.Add(deep(6), deep(2), deep(3))
	f.Fuzz(hold)
}
