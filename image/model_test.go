package image

import (
	"encoding/binary"
	"hash/crc32"
	"math/rand/v2"
	"slices"
	"strings"
	"testing"

	"tabularium/api"
	"tabularium/space"
)

// pulled: the part at the beginning of b by the words of P2.2, and how many bytes it takes.
func pulled(b string) (part string, size int, e api.Errno) {
	n, head := binary.Varint([]byte(b[:min(len(b), 12)]))
	if head <= 0 || numbered(int(n)) != b[:head] || n < 0 || n > 4000 || len(b) < head+int(n)+4 {
		return "", 0, api.ErrForm
	}
	size = head + int(n) + 4
	part = b[head : size-4]
	if binary.BigEndian.Uint32([]byte(b[size-4:size])) != crc32.ChecksumIEEE([]byte(part)) {
		return "", 0, api.ErrSum
	}
	return part, size, api.OK
}

// reader reads more forms of a number than chapter 1 has, and what is missing as 0: laid tells then whether it was of the one form.
type reader struct{ left []byte }

func (r *reader) number() int {
	n, size := binary.Varint(r.left)
	if size <= 0 {
		return 0
	}
	r.left = r.left[size:]
	return int(n)
}

func (r *reader) text() string {
	n := max(0, min(r.number(), len(r.left)))
	s := string(r.left[:n])
	r.left = r.left[n:]
	return s
}

// model: the space whose bytes are b, or the error.
func model(b string) (api.Space, api.Errno) {
	var parts []*reader
	for at := 0; at < len(b); {
		part, size, e := pulled(b[at:])
		if e != api.OK {
			return api.Space{}, e
		}
		parts = append(parts, &reader{[]byte(part)})
		at += size
	}
	if len(parts) == 0 || len(parts[0].left) == 0 {
		return api.Space{}, api.ErrForm
	}
	head := parts[0]
	head.left = head.left[1:]
	s := api.Space{Txid: head.number(), NextBlock: head.number(), NextGen: head.number(), Now: head.number()}
	nodes := head.number()
	for i, r := range parts[1:] {
		if i >= nodes {
			s.Leases = append(s.Leases, api.Lease{Client: r.number(), Until: r.number()})
			continue
		}
		n := api.Node{Path: r.text(), Dir: r.number() == 1, Quota: r.number(), Writer: r.number()}
		for range min(r.number(), 10) {
			n.Blocks = append(n.Blocks, block(r.number(), r.number(), r.number()))
		}
		s.Nodes = append(s.Nodes, n)
	}
	if !space.Right(s) || laid(partsOf(s)) != b {
		return api.Space{}, api.ErrForm
	}
	return s, api.OK
}

// hold asks Decode of b, and of a space that it tells Encode; the error that is told.
func hold(t *testing.T, b string) api.Errno {
	t.Helper()
	want, e := model(b)
	if e != api.OK {
		refused(t, "by the model", b, e)
		return e
	}
	wantBoth(t, "by the model", want, b)
	return api.OK
}

// anySpace: one that some edits have made.
func anySpace(r *rand.Rand) api.Space {
	paths := []string{"/", "/a", "/a/b", "/a/b/c", "/b", "/c", "/d", "/d/e", "/f" + strings.Repeat("f", 19)}
	kinds := []int{1, 1, 2, 2, 2, 3, 4, 5, 5, 5, 5, 5, 6, 7, 8, 9, 10}
	s := space.New()
	for range r.IntN(120) {
		e := api.Edit{Kind: kinds[r.IntN(len(kinds))], Path: paths[r.IntN(len(paths))], Client: r.IntN(4)}
		n := max(0, slices.IndexFunc(s.Nodes, func(n api.Node) bool { return n.Path == e.Path }))
		switch e.Kind {
		case api.Rename:
			e.To = paths[r.IntN(len(paths))]
		case api.Delete:
			if r.IntN(3) > 0 { // else too little would be left
				continue
			}
		case api.AddBlock, api.Complete:
			e.Client = max(0, s.Nodes[n].Writer)
			for range s.Nodes[n].Blocks {
				e.Lengths = append(e.Lengths, r.IntN(65))
			}
		case api.Bump:
			e.Client = max(0, s.Nodes[n].Writer)
			e.N = r.IntN(3)
		case api.SetQuota:
			e.N = r.IntN(20) - 1
		case api.Renew:
			e.N = s.Now + r.IntN(100)
		}
		if next, a := space.Apply(s, e); a.Err == api.OK {
			s = next
		}
	}
	return s
}

// turn: the bytes of a space with one thing or two that are other than they were.
func turn(r *rand.Rand, parts []string) string {
	parts = slices.Clone(parts)
	for range 1 + r.IntN(2) {
		i, k := r.IntN(len(parts)), r.IntN(len(parts))
		part := []byte(parts[i])
		at := r.IntN(len(part) + 1)
		switch r.IntN(8) {
		case 0:
			parts[i], parts[k] = parts[k], parts[i]
		case 1:
			parts[i] = parts[k]
		case 2:
			parts = slices.Insert(parts, k, parts[i])
		case 3:
			if len(parts) > 1 {
				parts = slices.Delete(parts, i, i+1)
			}
		case 4:
			parts[i] = string(slices.Insert(part, at, byte(r.IntN(256))))
		case 5:
			parts[i] = string(part[:at])
		default:
			if at < len(part) {
				part[at] += byte(2 - 4*r.IntN(2)) // a number that is one more or less
				parts[i] = string(part)
			}
		}
	}
	b := []byte(laid(parts))
	switch r.IntN(12) {
	case 0:
		if len(b) > 0 {
			b[r.IntN(len(b))] ^= 1 << r.IntN(8)
		}
	case 1:
		b = b[:r.IntN(len(b)+1)]
	}
	return string(b)
}

// P12.1, P12.2, P12.3: many spaces, and what becomes of their bytes.
func TestAgainstModel(t *testing.T) {
	r := rand.New(rand.NewPCG(12, 12))
	tally := map[api.Errno]int{}
	blocks, leases := 0, 0
	for range 3000 {
		s := anySpace(r)
		blocks += len(space.Blocks(s))
		leases += len(s.Leases)
		parts := partsOf(s)
		wantBoth(t, "by some edits", s, laid(parts))
		for range 20 {
			tally[hold(t, turn(r, parts))]++
		}
		if t.Failed() {
			return
		}
	}
	if blocks < 1000 || leases < 3000 || tally[api.OK] < 2000 || tally[api.ErrForm] < 20000 || tally[api.ErrSum] < 1000 {
		t.Errorf("too little was tried: %d blocks, %d leases, %v", blocks, leases, tally)
	}
}

// FuzzImage: bytes as they are, and parts that are sealed rightly, so that what they hold is looked at.
func FuzzImage(f *testing.F) {
	for _, s := range rights() {
		if parts := partsOf(s); len(parts) < 12 {
			f.Add(laid(parts), strings.Join(parts, "|"))
		}
	}
	for _, s := range wrongs() {
		if parts := partsOf(s); len(parts) < 12 {
			f.Add(laid(parts), strings.Join(parts, "|"))
		}
	}
	f.Fuzz(func(t *testing.T, b, parts string) {
		hold(t, b)
		hold(t, laid(strings.Split(parts, "|")))
	})
}
