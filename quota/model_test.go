package quota

import (
	"math/rand/v2"
	"slices"
	"strings"
	"testing"

	"tabularium/api"
	"tabularium/tree"
)

// The model adds nothing up, and takes nothing off: it looks how paths begin, and finds Room by trying one more, and one more.

func modelUnder(a, b string) bool {
	return a == "/" || a == b || strings.HasPrefix(b, a+"/")
}

// modelCount is asked of paths that are there alone.
func modelCount(all []string, p string) int {
	n := 0
	for _, q := range all {
		if modelUnder(p, q) {
			n++
		}
	}
	return n
}

// modelOver: what is Over, if the nodes stand at these paths.
func modelOver(l []api.Node, all []string) []string {
	var over []string
	for _, n := range l {
		if n.Dir && n.Quota >= 0 && modelCount(all, n.Path) > n.Quota {
			over = append(over, n.Path)
		}
	}
	slices.Sort(over)
	return over
}

func modelRoom(l []api.Node, p string) int {
	if !slices.ContainsFunc(l, func(n api.Node) bool { return n.Dir && n.Path == p }) {
		return 0
	}
	all := paths(l)
	for room := 0; ; room++ {
		all = append(all, strings.TrimSuffix(p, "/")+"/more")
		if len(all) > 60 || overAround(modelOver(l, all), p) {
			return room
		}
	}
}

// pick is where trees take their choices from: bytes, and nothing but 0 behind their end.
type pick struct{ left []byte }

func (c *pick) below(n int) int {
	if len(c.left) == 0 {
		return 0
	}
	x := int(c.left[0])
	c.left = c.left[1:]
	return x % n
}

// grown: a tree of up to 60 nodes, with names that begin alike, whose quotas are near to what there is.
func (c *pick) grown() []api.Node {
	names := []string{"a", "b", "a-b", "a.", "ab", "0", "_", "..."}
	l := []api.Node{dir("/", -1)}
	for range c.below(100) {
		n := file(strings.TrimSuffix(l[c.below(len(l))].Path, "/") + "/" + names[c.below(8)])
		if c.below(3) > 0 {
			n = dir(n.Path, -1)
		}
		if more, e := tree.Add(l, n); e == api.OK {
			l = more
		}
	}
	all := paths(l)
	for i, n := range l {
		if n.Dir {
			l[i].Quota = c.quota(modelCount(all, n.Path))
		}
	}
	return l
}

func (c *pick) quota(count int) int {
	switch c.below(8) {
	case 0:
		return 0
	case 1:
		return count - 1
	case 2:
		return count
	case 3:
		return count + c.below(60)
	case 4:
		return api.MaxNumber
	default:
		return -1
	}
}

// hold asks every call of one tree, and the model the same; how many directories with room it has, how many that are Over, how many nodes.
func hold(t *testing.T, deeds []byte) (roomy, over, nodes int) {
	t.Helper()
	c := &pick{deeds}
	l := c.grown()
	wantTree(t, l)
	if p := l[c.below(len(l))]; p.Dir && strings.Count(p.Path, "/") < 6 {
		holdGrowth(t, l, p.Path)
	}
	all := paths(l)
	wantOver(t, l, modelOver(l, all)...)
	for _, n := range l {
		wantCount(t, l, n.Path, modelCount(all, n.Path))
		room := modelRoom(l, n.Path)
		wantRoom(t, l, n.Path, room)
		if room > 0 {
			roomy++
		}
		for _, p := range []string{n.Path + "/", n.Path + "/x", n.Path[1:], n.Path + "x"} {
			if !slices.Contains(all, p) {
				wantCount(t, l, p, 0)
				wantRoom(t, l, p, 0)
			}
		}
	}
	return roomy, len(modelOver(l, all)), len(l)
}

// P8.1, P8.2: trees are answered as the model answers them.
func TestAgainstModel(t *testing.T) {
	r := rand.New(rand.NewPCG(8, 8))
	var roomy, over, most int
	for range 200 {
		deeds := make([]byte, 20+r.IntN(700))
		for i := range deeds {
			deeds[i] = byte(r.Uint32())
		}
		withRoom, overQuota, nodes := hold(t, deeds)
		roomy, over, most = roomy+withRoom, over+overQuota, max(most, nodes)
		if t.Failed() {
			return
		}
	}
	if roomy < 500 || over < 500 || most < 60 {
		t.Errorf("too little was tried: %d directories with room, %d Over, %d nodes at most", roomy, over, most)
	}
}

func FuzzQuota(f *testing.F) {
	f.Add([]byte{9, 0, 1, 1, 0, 0, 1, 1, 1, 2, 0, 3, 3, 5, 2})
	f.Add([]byte{60, 0, 0, 1, 0, 1, 1, 0, 2, 2, 1, 3, 1, 3, 4, 4})
	f.Fuzz(func(t *testing.T, deeds []byte) {
		hold(t, deeds[:min(len(deeds), 700)])
	})
}
