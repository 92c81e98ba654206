package tree

import (
	"slices"

	"tabularium/api"
	"tabularium/path"
)

const nothing = -1 // a quota that there is not, a writer that is nobody

// Fits: may n stand in a tree?
func Fits(n api.Node) bool {
	if !isPath(n.Path) {
		return false
	}
	if n.Dir {
		return fitsDir(n)
	}
	return fitsFile(n)
}

func isPath(p string) bool {
	_, e := path.Split(p)
	return e == api.OK
}

func fitsDir(n api.Node) bool {
	return len(n.Blocks) == 0 && n.Writer == nothing && within(n.Quota, nothing, api.MaxNumber)
}

func fitsFile(n api.Node) bool {
	if n.Path == root || n.Quota != nothing || !within(n.Writer, nothing, api.MaxClients-1) || len(n.Blocks) > api.MaxBlocks {
		return false
	}
	for _, b := range n.Blocks {
		if !within(b.ID, 1, api.MaxNumber) || !within(b.Gen, 1, api.MaxNumber) || !within(b.Len, 0, api.MaxBlock) {
			return false
		}
	}
	return true
}

func within(n, least, most int) bool {
	return least <= n && n <= most
}

// copied: n with blocks of its own, so that nobody who writes into them writes into another's.
func copied(n api.Node) api.Node {
	n.Blocks = slices.Clone(n.Blocks)
	return n
}
