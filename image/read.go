package image

import (
	"strings"

	"tabularium/api"
	"tabularium/sum"
	"tabularium/wire"
)

// opened: what each part of b holds. All of them are opened ahead of reading one: an error of a seal is told ahead of what the parts hold.
func opened(b string) ([]string, api.Errno) {
	var parts []string
	for b != "" {
		part, rest, e := sum.Open(b)
		if e != api.OK {
			return nil, e
		}
		parts, b = append(parts, part), rest
	}
	return parts, api.OK
}

// read: the space that these parts hold, right or not; false, if they hold none.
func read(parts []string) (api.Space, bool) {
	if len(parts) == 0 {
		return api.Space{}, false
	}
	s, nodes, leases, ok := readHead(parts[0])
	rest := parts[1:]
	// Each by itself: too many nodes are not made good by leases below 0.
	if !ok || !within(nodes, 0, len(rest)) || leases != len(rest)-nodes {
		return api.Space{}, false
	}
	var nodesRead, leasesRead bool
	s.Nodes, nodesRead = readAll(rest[:nodes], readNode)
	s.Leases, leasesRead = readAll(rest[nodes:], readLease)
	return s, nodesRead && leasesRead
}

// readAll: what each part holds; false, if one holds nothing of that kind.
func readAll[thing any](parts []string, one func(part string) (thing, bool)) ([]thing, bool) {
	var l []thing
	for _, part := range parts {
		x, ok := one(part)
		if !ok {
			return nil, false
		}
		l = append(l, x)
	}
	return l, true
}

// readHead: the space without its nodes and leases, and how many of both there must be.
func readHead(part string) (s api.Space, nodes, leases int, ok bool) {
	left, ok := strings.CutPrefix(part, mark)
	if !ok {
		return api.Space{}, 0, 0, false
	}
	number, _, ended := over(left)
	s = api.Space{Txid: number(), NextBlock: number(), NextGen: number(), Now: number()}
	nodes, leases = number(), number()
	return s, nodes, leases, ended()
}

func readNode(part string) (api.Node, bool) {
	number, text, ended := over(part)
	n := api.Node{Path: text()}
	what := number()
	n.Dir = what == isDir
	n.Quota, n.Writer = number(), number()
	many := number()
	if !within(what, isFile, isDir) || !within(many, 0, api.MaxBlocks) {
		return api.Node{}, false
	}
	for range many {
		n.Blocks = append(n.Blocks, api.Block{ID: number(), Gen: number(), Len: number()})
	}
	return n, ended()
}

func readLease(part string) (api.Lease, bool) {
	number, _, ended := over(part)
	return api.Lease{Client: number(), Until: number()}, ended()
}

// over: what takes a number, what takes a text, each from what the others have left of part; and whether all that was asked for was there, and nothing is left.
func over(part string) (number func() int, text func() string, ended func() bool) {
	left, sound := part, true
	number = func() int {
		n, rest, e := wire.TakeNum(left)
		left, sound = rest, sound && e == api.OK
		return n
	}
	text = func() string {
		s, rest, e := wire.TakeText(left)
		left, sound = rest, sound && e == api.OK
		return s
	}
	ended = func() bool { return sound && left == "" }
	return number, text, ended
}

func within(n, least, most int) bool {
	return least <= n && n <= most
}
