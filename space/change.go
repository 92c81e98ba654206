package space

import (
	"tabularium/api"
	"tabularium/lease"
	"tabularium/path"
	"tabularium/quota"
	"tabularium/tree"
)

// refuse leaves by a panic of e, if an edit can't be made: Apply recovers it.
func refuse(is bool, e api.Errno) {
	if is {
		panic(e)
	}
}

// taken: what another layer's call answers without an error; with one the edit is refused.
func taken[T any](x T, e api.Errno) T {
	refuse(e != api.OK, e)
	return x
}

// reason: why an edit was left.
func reason(why any) api.Errno {
	if e, ok := why.(api.Errno); ok {
		return e
	}
	return api.ErrArg // nothing else should come; if it does, no panic may leave a call
}

// change makes e in s, whose memory is our own, and tells e's answer. Txid is not its matter.
func change(s *api.Space, e api.Edit) api.Answer {
	switch e.Kind {
	case api.MkDir:
		add(s, newDir(e.Path))
	case api.Create:
		return create(s, e)
	case api.Delete:
		s.Nodes = taken(tree.Remove(s.Nodes, e.Path))
	case api.Rename:
		rename(s, e)
	case api.AddBlock:
		return addBlock(s, e)
	case api.Complete:
		return complete(s, e)
	case api.SetQuota:
		setQuota(s, e)
	case api.Renew:
		renew(s, e)
	case api.Bump:
		return bump(s, e)
	case api.Reopen:
		return reopen(s, e)
	}
	return api.Answer{}
}

func add(s *api.Space, n api.Node) {
	nodes := taken(tree.Add(s.Nodes, n))
	dir, _, _ := path.Parent(n.Path) // never refused: Add took it
	refuse(quota.Room(s.Nodes, dir) < 1, api.ErrFull)
	s.Nodes = nodes
}

func create(s *api.Space, e api.Edit) api.Answer {
	n := newFile(e.Path, e.Client)
	add(s, n)
	renewLease(s, e.Client)
	return api.Answer{Node: n}
}

func rename(s *api.Space, e api.Edit) {
	s.Nodes = taken(tree.Move(s.Nodes, e.Path, e.To))
	refuse(len(quota.Over(s.Nodes)) > 0, api.ErrFull)
}

func addBlock(s *api.Space, e api.Edit) api.Answer {
	n := written(s, e)
	setLengths(n, e.Lengths)
	full := len(n.Blocks) == api.MaxBlocks
	refuse(full || s.NextBlock == api.MaxNumber || s.NextGen == api.MaxNumber, api.ErrLong)
	b := api.Block{ID: s.NextBlock, Gen: s.NextGen}
	n.Blocks = append(n.Blocks, b)
	s.NextBlock++
	s.NextGen++
	return api.Answer{Block: b, Node: copiedNode(*n)}
}

func complete(s *api.Space, e api.Edit) api.Answer {
	n := written(s, e)
	setLengths(n, e.Lengths)
	n.Writer = nothing
	return api.Answer{Node: copiedNode(*n)}
}

func bump(s *api.Space, e api.Edit) api.Answer {
	n := written(s, e)
	refuse(e.N >= len(n.Blocks), api.ErrArg)
	refuse(s.NextGen == api.MaxNumber, api.ErrLong)
	n.Blocks[e.N].Gen = s.NextGen
	s.NextGen++
	return api.Answer{Block: n.Blocks[e.N], Node: copiedNode(*n)}
}

func reopen(s *api.Space, e api.Edit) api.Answer {
	n := fileAt(s, e.Path)
	refuse(n.Writer != nothing, api.ErrLease) // also where Client writes it already
	n.Writer = e.Client
	renewLease(s, e.Client)
	return api.Answer{Node: copiedNode(*n)}
}

func setQuota(s *api.Space, e api.Edit) {
	n := nodeAt(s, e.Path)
	refuse(!n.Dir, api.ErrDir)
	refuse(e.N != nothing && e.N < quota.Count(s.Nodes, e.Path), api.ErrFull)
	n.Quota = e.N
}

func renew(s *api.Space, e api.Edit) {
	refuse(!within(e.N, s.Now, lastNow), api.ErrArg)
	s.Now = e.N
	renewLease(s, e.Client)
}

func renewLease(s *api.Space, client int) {
	s.Leases = taken(lease.Renew(s.Leases, client, s.Now))
}

// written: the file that e's client writes, at e's path.
func written(s *api.Space, e api.Edit) *api.Node {
	n := fileAt(s, e.Path)
	refuse(n.Writer != e.Client, api.ErrLease)
	return n
}

func fileAt(s *api.Space, p string) *api.Node {
	n := nodeAt(s, p)
	refuse(n.Dir, api.ErrDir)
	return n
}

func nodeAt(s *api.Space, p string) *api.Node {
	return &s.Nodes[taken(find(s.Nodes, p))]
}

func setLengths(n *api.Node, lengths []int) {
	refuse(len(lengths) != len(n.Blocks), api.ErrArg)
	for i, length := range lengths {
		refuse(length > api.MaxBlock, api.ErrArg)
		n.Blocks[i].Len = length
	}
}
