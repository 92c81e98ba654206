package space

import (
	"fmt"
	"maps"
	"math"
	"math/rand/v2"
	"regexp"
	"slices"
	"strings"
	"testing"

	"tabularium/api"
)

// The model takes no other layer's help: it is things by their paths, and of each kind of edit a list of all that may be wrong with it, in the chapters' order. It is written into, and never panics.
type world struct {
	s      api.Space // but for its lists
	things map[string]api.Node
	until  map[int]int
}

var (
	modelForm = regexp.MustCompile(`\A(/|(/[a-z0-9._-]{1,20}){1,6})\z`)
	modelDots = regexp.MustCompile(`/\.{1,2}(/|\z)`)
)

func modelPath(p string) bool {
	return len(p) <= 120 && modelForm.MatchString(p) && !modelDots.MatchString(p)
}

func modelParent(p string) string {
	return p[:min(len(p), max(strings.LastIndexByte(p, '/'), 1))]
}

func modelUnder(a, b string) bool {
	return strings.HasPrefix(strings.TrimSuffix(b, "/")+"/", strings.TrimSuffix(a, "/")+"/")
}

func number(n int) bool {
	return n >= 0 && n < 1<<53
}

func newWorld(s api.Space) *world {
	w := &world{s: s, things: map[string]api.Node{}, until: map[int]int{}}
	for _, n := range s.Nodes {
		n.Blocks = slices.Clone(n.Blocks)
		w.things[n.Path] = n
	}
	for _, l := range s.Leases {
		w.until[l.Client] = l.Until
	}
	return w
}

// tell: the space that the model is.
func (w *world) tell() api.Space {
	s := w.s
	s.Nodes, s.Leases = nil, nil
	for _, p := range slices.Sorted(maps.Keys(w.things)) {
		n := w.things[p]
		n.Blocks = slices.Clone(n.Blocks)
		s.Nodes = append(s.Nodes, n)
	}
	for _, client := range slices.Sorted(maps.Keys(w.until)) {
		s.Leases = append(s.Leases, api.Lease{Client: client, Until: w.until[client]})
	}
	return s
}

func count(things map[string]api.Node, p string) int {
	many := 0
	for q := range things {
		if modelUnder(p, q) {
			many++
		}
	}
	return many
}

func anyOver(things map[string]api.Node) bool {
	for p, n := range things {
		if n.Quota >= 0 && count(things, p) > n.Quota {
			return true
		}
	}
	return false
}

func fitsDir(n api.Node) bool {
	return len(n.Blocks) == 0 && n.Writer == -1 && (n.Quota == -1 || number(n.Quota))
}

func fitsFile(n api.Node) bool {
	for _, b := range n.Blocks {
		if min(b.ID, b.Gen) < 1 || !number(b.ID) || !number(b.Gen) || b.Len < 0 || b.Len > 64 {
			return false
		}
	}
	return n.Path != "/" && n.Quota == -1 && n.Writer >= -1 && n.Writer <= 3 && len(n.Blocks) <= 8
}

// isRight: is s right? What the world is asked, out of any order, has that of s at the end.
func isRight(s api.Space) bool {
	w := newWorld(s)
	if s.Txid < 0 || s.Txid > 300 || !number(s.NextBlock-1) || s.NextBlock == 1<<53 || !number(s.NextGen-1) || s.NextGen == 1<<53 || s.Now < 0 || !number(s.Now+10) {
		return false
	}
	ids := map[int]bool{}
	for p, n := range w.things {
		_, leased := w.until[n.Writer]
		switch {
		case !modelPath(p), n.Dir && !fitsDir(n), !n.Dir && !fitsFile(n), !w.things[modelParent(p)].Dir, !n.Dir && n.Writer >= 0 && !leased:
			return false
		}
		for _, b := range n.Blocks {
			if ids[b.ID] || b.ID >= s.NextBlock || b.Gen >= s.NextGen {
				return false
			}
			ids[b.ID] = true
		}
	}
	for client, until := range w.until {
		if client < 0 || client > 3 || !number(until) {
			return false
		}
	}
	return w.things["/"].Dir && len(w.things) <= 60 && !anyOver(w.things) && same(w.tell(), s)
}

// isEdit: is e right, by chapter 10?
func isEdit(e api.Edit) bool {
	if e.Kind < 1 || e.Kind > 10 || len(e.Path) > 120 || e.Client < 0 || e.Client > 3 || !number(e.Call) || len(e.To) > 120 || e.To != "" && e.Kind != api.Rename {
		return false
	}
	if e.N != 0 && !(e.Kind >= 7 && e.Kind <= 9 && number(e.N)) && !(e.Kind == 7 && e.N == -1) {
		return false
	}
	if len(e.Lengths) > 0 && e.Kind != api.AddBlock && e.Kind != api.Complete || len(e.Lengths) > 8 {
		return false
	}
	return !slices.ContainsFunc(e.Lengths, func(n int) bool { return !number(n) })
}

// fault is what may be wrong with an edit.
type fault struct {
	is bool
	e  api.Errno
}

// faults: all that may be wrong with e, in order.
func (w *world) faults(e api.Edit) []fault {
	l := []fault{{!isEdit(e), api.ErrArg}, {w.s.Txid == 300, api.ErrLong}}
	switch e.Kind {
	case api.MkDir, api.Create:
		return append(l, w.faultsOfAdd(e)...)
	case api.Rename:
		return append(l, w.faultsOfRename(e)...)
	case api.Renew:
		return append(l, fault{e.N < w.s.Now || e.N > 1<<53-11, api.ErrArg})
	}
	n, there := w.things[e.Path]
	l = append(l, fault{!modelPath(e.Path), api.ErrArg})
	if e.Kind == api.Delete {
		return append(l, fault{e.Path == "/", api.ErrArg}, fault{!there, api.ErrNone})
	}
	l = append(l, fault{!there, api.ErrNone}, fault{there && n.Dir != (e.Kind == api.SetQuota), api.ErrDir})
	switch e.Kind {
	case api.SetQuota:
		return append(l, fault{e.N >= 0 && count(w.things, e.Path) > e.N, api.ErrFull})
	case api.Reopen:
		return append(l, fault{there && n.Writer != -1, api.ErrLease})
	}
	return append(l, w.faultsOfWriter(e, n)...)
}

func (w *world) faultsOfAdd(e api.Edit) []fault {
	p := modelParent(e.Path)
	in, dirThere := w.things[p]
	_, there := w.things[e.Path]
	trial := maps.Clone(w.things)
	trial[strings.TrimSuffix(p, "/")+"/one-more-than-that"] = api.Node{Quota: -1}
	return []fault{
		{!modelPath(e.Path) || e.Path == "/", api.ErrArg},
		{there, api.ErrExist},
		{!dirThere, api.ErrNone},
		{dirThere && !in.Dir, api.ErrDir},
		{len(w.things) >= 60, api.ErrLong},
		{anyOver(trial), api.ErrFull},
	}
}

// renamed: the things when from is to, as far as it can be.
func (w *world) renamed(from, to string) map[string]api.Node {
	if _, there := w.things[from]; !there || from == "/" {
		return w.things
	}
	out := maps.Clone(w.things)
	maps.DeleteFunc(out, func(p string, _ api.Node) bool { return modelUnder(from, p) })
	for p, n := range w.things {
		if modelUnder(from, p) {
			n.Path = to + p[len(from):]
			out[n.Path] = n
		}
	}
	return out
}

func (w *world) faultsOfRename(e api.Edit) []fault {
	source, there := w.things[e.Path]
	in, dirThere := w.things[modelParent(e.To)]
	target, taken := w.things[e.To]
	renamed := w.renamed(e.Path, e.To)
	long := false
	for p := range renamed {
		long = long || strings.Count(p, "/") > 6 || len(p) > 120
	}
	return []fault{
		{!modelPath(e.Path) || !modelPath(e.To) || e.Path == "/" || e.To == "/" || modelUnder(e.Path, e.To), api.ErrArg},
		{!there || !dirThere, api.ErrNone},
		{dirThere && !in.Dir, api.ErrDir},
		{taken && (source.Dir || target.Dir), api.ErrExist},
		{long, api.ErrLong},
		{anyOver(renamed), api.ErrFull},
	}
}

func (w *world) faultsOfWriter(e api.Edit, n api.Node) []fault {
	tooLong := slices.ContainsFunc(e.Lengths, func(n int) bool { return n > 64 })
	l := []fault{{n.Writer != e.Client, api.ErrLease}}
	if e.Kind == api.Bump {
		return append(l, fault{e.N < 0 || e.N >= len(n.Blocks), api.ErrArg}, fault{w.s.NextGen == 1<<53-1, api.ErrLong})
	}
	l = append(l, fault{len(e.Lengths) != len(n.Blocks) || tooLong, api.ErrArg})
	if e.Kind == api.AddBlock {
		l = append(l, fault{len(n.Blocks) == 8 || max(w.s.NextBlock, w.s.NextGen) == 1<<53-1, api.ErrLong})
	}
	return l
}

// do makes an edit with which nothing is wrong.
func (w *world) do(e api.Edit) (a api.Answer) {
	w.s.Txid++
	n := w.things[e.Path]
	for i, length := range e.Lengths {
		n.Blocks[i].Len = length
	}
	switch e.Kind {
	case api.MkDir:
		n = api.Node{Path: e.Path, Dir: true, Quota: -1, Writer: -1}
	case api.Create:
		n = api.Node{Path: e.Path, Quota: -1, Writer: e.Client}
	case api.AddBlock:
		a.Block = api.Block{ID: w.s.NextBlock, Gen: w.s.NextGen}
		n.Blocks = append(n.Blocks, a.Block)
		w.s.NextBlock++
		w.s.NextGen++
	case api.Complete:
		n.Writer = -1
	case api.Bump:
		n.Blocks[e.N].Gen = w.s.NextGen
		a.Block = n.Blocks[e.N]
		w.s.NextGen++
	case api.Reopen:
		n.Writer = e.Client
	case api.SetQuota:
		n.Quota = e.N
	case api.Renew:
		w.s.Now = e.N
	}
	if slices.Contains([]int{api.Create, api.Reopen, api.Renew}, e.Kind) {
		w.until[e.Client] = max(w.until[e.Client], w.s.Now+10)
	}
	if slices.Contains([]int{api.Create, api.AddBlock, api.Complete, api.Bump, api.Reopen}, e.Kind) {
		a.Node = n
		a.Node.Blocks = slices.Clone(n.Blocks)
	}
	switch e.Kind {
	case api.Delete:
		maps.DeleteFunc(w.things, func(p string, _ api.Node) bool { return modelUnder(e.Path, p) })
	case api.Rename:
		w.things = w.renamed(e.Path, e.To)
	case api.Renew:
	default:
		w.things[e.Path] = n
	}
	return a
}

// pick is where deeds take their choices from: bytes, and nothing but 0 behind their end.
type pick struct{ left []byte }

func (c *pick) below(n int) int {
	if len(c.left) == 0 {
		return 0
	}
	x := int(c.left[0])
	c.left = c.left[1:]
	return x % n
}

func (c *pick) of(l ...int) int {
	return l[c.below(len(l))]
}

// there: a path that is there, of a file, if that is wanted and there is one.
func (c *pick) there(s api.Space, wantFile bool) string {
	l := slices.DeleteFunc(slices.Clone(s.Nodes), func(n api.Node) bool { return n.Dir })
	if !wantFile || len(l) == 0 || c.below(8) == 0 {
		l = s.Nodes
	}
	return l[c.below(len(l))].Path
}

// fresh: most often a path that would stand in a directory that is there.
func (c *pick) fresh(s api.Space) string {
	names := []string{"a", "b", "a-b", "a.", "ab", "0", "_", "..."}
	p := c.there(s, c.below(12) == 0)
	switch c.below(12) {
	case 0:
		return p
	case 1:
		return p + []string{"/", "/.", "/..", "//a", "/A", "", "/é", "/a/"}[c.below(8)]
	case 2:
		return strings.TrimSuffix(p, "/") + "/" + strings.Repeat("x", 17+c.below(5))
	case 3:
		return strings.TrimSuffix(p, "/") + "/" + names[c.below(8)] + "/" + names[c.below(8)]
	}
	return strings.TrimSuffix(p, "/") + "/" + names[c.below(8)]
}

// path: one that fits the kind, more often than not.
func (c *pick) path(s api.Space, kind int) string {
	fresh := kind == api.MkDir || kind == api.Create
	if c.below(8) == 0 {
		fresh = !fresh
	}
	if fresh {
		return c.fresh(s)
	}
	return c.there(s, slices.Contains([]int{api.AddBlock, api.Complete, api.Bump, api.Reopen}, kind))
}

// edit: one that can be made more often than not, or is not right.
func (c *pick) edit(s api.Space) api.Edit {
	kind := c.of(api.MkDir, api.Create, api.Create, api.Delete, api.Rename, api.Rename, api.AddBlock, api.AddBlock, api.AddBlock, api.Complete, api.SetQuota, api.SetQuota, api.Renew, api.Bump, api.Reopen, api.Reopen)
	e := api.Edit{Kind: kind, Path: c.path(s, kind), Client: c.below(4), Call: c.below(100)}
	i := slices.IndexFunc(s.Nodes, func(n api.Node) bool { return n.Path == e.Path })
	blocks, held := c.below(3), 0
	if i >= 0 {
		blocks = len(s.Nodes[i].Blocks)
		held = count(newWorld(s).things, e.Path)
		if w := s.Nodes[i].Writer; w >= 0 && c.below(6) > 0 {
			e.Client = w
		}
	}
	switch kind {
	case api.Delete:
		if c.below(3) > 0 {
			e.Path += "/a" // else little would come to stand
		}
	case api.Rename:
		e.To = c.fresh(s)
		if c.below(4) == 0 {
			e.To = c.there(s, c.below(2) == 0)
		}
	case api.SetQuota:
		e.N = c.of(-1, held-1, held, held+1, held+c.below(9), 60, greatest)
	case api.Renew:
		e.N = s.Now + c.of(0, 0, 1, 2, 3, 10, 20, -1)
		if c.below(30) == 0 {
			e.N = c.of(greatest-11, greatest-10, greatest-9, 0)
		}
	case api.Bump:
		e.N = max(0, c.of(0, blocks-1, blocks/2, blocks))
	case api.AddBlock, api.Complete:
		for range blocks + c.of(0, 0, 0, 0, 0, 0, 0, 1, 2, 3) {
			e.Lengths = append(e.Lengths, c.of(0, 1, 5, 9, 30, 33, 63, 64, 64, 64, 64, 2+c.below(64)))
		}
		e.Lengths = e.Lengths[:max(0, len(e.Lengths)-c.of(0, 0, 0, 0, 0, 0, 1))]
	}
	if c.below(40) == 0 {
		c.spoilt(&e)
	}
	return e
}

// spoilt: one thing of e is another one, most often one that is not right.
func (c *pick) spoilt(e *api.Edit) {
	odd := c.of(-1, -2, 0, 4, 11, greatest, greatest+1, math.MinInt, math.MaxInt)
	switch c.below(6) {
	case 0:
		e.Kind = odd
	case 1:
		e.Client = odd
	case 2:
		e.Call = odd
	case 3:
		e.N = odd
	case 4:
		e.Lengths = append(e.Lengths, odd)
	case 5:
		e.To += strings.Repeat("/x", c.below(62))
	}
}

// starts: spaces from which deeds go on, in some of which little is left to do.
func starts() map[string]api.Space {
	thread := with(town(), func(s *api.Space) {
		for _, n := range []api.Node{dir("/d/1"), dir("/d/1/2"), dir("/d/1/2/3"), limited("/d/1/2/3/4", 2), file("/d/1/2/3/4/f", 2), limited("/w", 1)} {
			put(s, n)
		}
	})
	return map[string]api.Space{
		"new":    New(),
		"town":   town(),
		"crowd":  crowd(57),
		"spent":  spent(),
		"thread": thread,
		"late":   with(town(), func(s *api.Space) { s.Txid, s.Now = 290, greatest-12 }),
		"last":   with(town(), func(s *api.Space) { s.NextBlock, s.NextGen = greatest-3, greatest-5 }),
		"eight":  fileOf(7),
	}
}

// tally: how often what was tried.
type tally struct {
	told  map[string]int // a kind with an error
	pairs map[string]int // a kind with two errors, both of which would be right but for their order
}

// follow does deeds with a space and with a model, and holds what they answer against each other.
func follow(t *testing.T, s api.Space, deeds []byte, n tally) {
	c, w := &pick{deeds}, newWorld(s)
	start := s
	var made []api.Edit
	for len(c.left) > 0 {
		e := c.edit(s)
		want := api.Answer{}
		l := slices.DeleteFunc(w.faults(e), func(f fault) bool { return !f.is })
		if len(l) > 0 {
			want.Err = l[0].e
			for _, f := range l[1:] {
				n.pairs[fmt.Sprint(e.Kind, " ", l[0].e, " ", f.e)]++
			}
		} else {
			want = w.do(e)
			made = append(made, e)
		}
		n.told[fmt.Sprint(e.Kind, " ", want.Err)]++
		next, a := Apply(s, e)
		if !sameAnswer(a, want) {
			t.Fatalf("%s in %s is answered %s, not %s", tell(e), tell(s), tell(a), tell(want))
		}
		wantNext := api.Space{}
		if want.Err == api.OK {
			wantNext = w.tell()
			s = wantNext
		}
		if !same(next, wantNext) {
			t.Fatalf("%s makes %s, not %s", tell(e), tell(next), tell(wantNext))
		}
		if !Right(s) || !isRight(s) {
			t.Fatalf("%s makes what is not right: %s", tell(e), tell(s))
		}
		holdQuestions(t, c, s)
	}
	wantFold(t, start, made, s, api.OK)
}

// holdQuestions: Stat, List and Blocks of s, now and then.
func holdQuestions(t *testing.T, c *pick, s api.Space) {
	t.Helper()
	if c.below(4) > 0 {
		return
	}
	w, p := newWorld(s), c.path(s, c.of(api.MkDir, api.Reopen, api.Delete))
	n, there := w.things[p]
	stat, list := api.Answer{Node: n}, api.Answer{}
	var blocks []api.Block
	for q, x := range w.things {
		blocks = append(blocks, x.Blocks...)
		if q != "/" && modelParent(q) == p {
			list.Names = append(list.Names, q[strings.LastIndexByte(q, '/')+1:])
		}
	}
	slices.Sort(list.Names)
	switch {
	case !modelPath(p):
		stat, list = errorAlone(api.ErrArg), errorAlone(api.ErrArg)
	case !there:
		stat, list = errorAlone(api.ErrNone), errorAlone(api.ErrNone)
	case !n.Dir:
		list = errorAlone(api.ErrDir)
	}
	slices.SortFunc(blocks, func(a, b api.Block) int { return a.ID - b.ID })
	wantStat(t, s, p, stat)
	wantList(t, s, p, list)
	wantBlocks(t, s, blocks...)
}

func bytesOf(r *rand.Rand, many int) []byte {
	l := make([]byte, many)
	for i := range l {
		l[i] = byte(r.Uint32())
	}
	return l
}

// P11.2 to P11.4: spaces answer what the model does, edit by edit; whoever folds the same edits has the same space.
func TestAgainstModel(t *testing.T) {
	r := rand.New(rand.NewPCG(11, 11))
	n := tally{map[string]int{}, map[string]int{}}
	for range 60 {
		for _, what := range slices.Sorted(maps.Keys(starts())) {
			follow(t, starts()[what], bytesOf(r, 100+r.IntN(1500)), n)
		}
	}
	each := map[int][]api.Errno{
		api.MkDir:    {api.OK, api.ErrArg, api.ErrExist, api.ErrNone, api.ErrDir, api.ErrLong, api.ErrFull},
		api.Create:   {api.OK, api.ErrArg, api.ErrExist, api.ErrNone, api.ErrDir, api.ErrLong, api.ErrFull},
		api.Delete:   {api.OK, api.ErrArg, api.ErrNone},
		api.Rename:   {api.OK, api.ErrArg, api.ErrNone, api.ErrDir, api.ErrExist, api.ErrLong, api.ErrFull},
		api.AddBlock: {api.OK, api.ErrArg, api.ErrNone, api.ErrDir, api.ErrLease, api.ErrLong},
		api.Complete: {api.OK, api.ErrArg, api.ErrNone, api.ErrDir, api.ErrLease},
		api.Bump:     {api.OK, api.ErrArg, api.ErrNone, api.ErrDir, api.ErrLease, api.ErrLong},
		api.Reopen:   {api.OK, api.ErrArg, api.ErrNone, api.ErrDir, api.ErrLease},
		api.SetQuota: {api.OK, api.ErrArg, api.ErrNone, api.ErrDir, api.ErrFull},
		api.Renew:    {api.OK, api.ErrArg},
	}
	for kind, l := range each {
		for _, e := range append(l, api.ErrLong) {
			if many := n.told[fmt.Sprint(kind, " ", e)]; many < 20 {
				t.Errorf("kind %d was answered %d only %d times", kind, e, many)
			}
		}
	}
	if len(n.pairs) < 100 {
		t.Errorf("only %d pairs of errors were tried", len(n.pairs))
	}
}

// bent: s, with some of it as it may not be, most often.
func (c *pick) bent(s api.Space) api.Space {
	return with(s, func(s *api.Space) {
		odd := c.of(-1, 0, 1, 2, 3, 4, 19, 20, 29, 30, 64, 300, 301, greatest-10, greatest-9, greatest, greatest+1, math.MinInt, math.MaxInt)
		node := &s.Nodes[c.below(len(s.Nodes))]
		switch c.below(14) {
		case 0:
			s.Txid = odd
		case 1:
			s.NextBlock = odd
		case 2:
			s.NextGen = odd
		case 3:
			s.Now = odd
		case 4:
			drop(s, node.Path)
		case 5:
			put(s, file(c.fresh(*s), c.below(5)-1))
		case 6:
			node.Quota = odd
		case 7:
			node.Writer = odd
		case 8, 9, 10:
			node = at(s, c.there(*s, true))
			if len(node.Blocks) == 0 {
				node.Blocks = append(node.Blocks, block(c.below(25), c.below(35), 1))
			}
			b := &node.Blocks[c.below(len(node.Blocks))]
			*[]*int{&b.ID, &b.Gen, &b.Len}[c.below(3)] = odd
		case 11:
			s.Leases = append(s.Leases, api.Lease{Client: odd, Until: c.below(9)})
		case 12:
			s.Leases = append(s.Leases, api.Lease{Client: c.below(4), Until: odd})
			slices.SortFunc(s.Leases, func(a, b api.Lease) int { return a.Client - b.Client })
		case 13:
			s.Leases = s.Leases[:c.below(len(s.Leases)+1)]
		}
	})
}

// P11.1 to P11.3: spaces that are right, or nearly so, are told as the model tells them, and nothing is done to one that is not.
func TestRightAgainstModel(t *testing.T) {
	r := rand.New(rand.NewPCG(11, 1))
	told := map[bool]int{}
	for range 4000 {
		c := &pick{bytesOf(r, 60)}
		s := town()
		for range c.below(4) {
			if len(s.Nodes) > 0 {
				s = c.bent(s)
			}
		}
		want := isRight(s)
		told[want]++
		wantRight(t, "bent", s, want)
		if !want {
			for _, e := range sound() {
				wantRefused(t, s, e, api.ErrArg)
			}
			wantStat(t, s, "/", errorAlone(api.ErrArg))
			wantList(t, s, "/", errorAlone(api.ErrArg))
			wantBlocks(t, s)
		}
		if t.Failed() {
			return
		}
	}
	if min(told[true], told[false]) < 1000 {
		t.Errorf("spaces that are right, and not: %v", told)
	}
}

func FuzzSpace(f *testing.F) {
	f.Add([]byte{1, 0, 0, 0, 9, 0, 1, 1, 6, 0, 0, 3, 1, 4})
	f.Add([]byte{2, 3, 4, 5, 6, 7, 8, 9, 10, 11, 12, 13, 14, 15, 16})
	f.Fuzz(func(t *testing.T, deeds []byte) {
		for _, s := range starts() {
			follow(t, s, deeds[:min(len(deeds), 400)], tally{map[string]int{}, map[string]int{}})
		}
	})
}
