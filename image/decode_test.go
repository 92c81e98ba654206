package image

import (
	"math"
	"slices"
	"strconv"
	"strings"
	"testing"

	"tabularium/api"
	"tabularium/space"
)

// some of the spaces that are right, small enough to try much at each place.
func some() map[string]api.Space {
	return map[string]api.Space{"no edit": space.New(), "the village": village(), "the town": town()}
}

// P12.2, P12.3: what is cut off at its end, at any place, also between two parts.
func TestDecodeCutOff(t *testing.T) {
	for what, s := range rights() {
		b := laid(partsOf(s))
		for i := range b {
			refused(t, what, b[:i], api.ErrForm)
		}
	}
}

// P12.2: what is cut off at its beginning is as the bytes say that are then the first.
func TestDecodeBeginsLater(t *testing.T) {
	for what, s := range some() {
		b := laid(partsOf(s))
		for i := 1; i < len(b); i++ {
			if hold(t, b[i:]) == api.OK {
				t.Errorf("%s: without its first %d bytes it is taken", what, i)
			}
		}
	}
}

// P12.2: bytes behind the last part: no part, a part with another sum, a part too many.
func TestDecodeMore(t *testing.T) {
	for what, s := range some() {
		b := laid(partsOf(s))
		for c := range 256 {
			refused(t, what, b+string([]byte{byte(c)}), api.ErrForm)
		}
		refused(t, what, b+"\x00\x00\x00\x00", api.ErrForm)
		refused(t, what, b+"\x00\x00\x00\x00\x00", api.ErrForm)
		refused(t, what, b+"\x00\x00\x00\x00\x01", api.ErrSum)
		refused(t, what, b+"\x00\x00\x00\x00\x00\x00", api.ErrForm)
		refused(t, what, b+sealing(numbered(3, 4)), api.ErrForm)
		refused(t, what, b+b, api.ErrForm)
	}
}

// P12.2: one part more, one fewer, the same twice, two in each other's places.
func TestDecodeOtherParts(t *testing.T) {
	for what, s := range map[string]api.Space{"no edit": space.New(), "the village": village(), "the town": town(), "the city": city()} {
		parts := partsOf(s)
		for i, p := range parts {
			refused(t, what+", one fewer", laid(slices.Delete(slices.Clone(parts), i, i+1)), api.ErrForm)
			refused(t, what+", one twice", laid(slices.Insert(slices.Clone(parts), i, p)), api.ErrForm)
			refused(t, what+", an empty one", laid(slices.Insert(slices.Clone(parts), i, "")), api.ErrForm)
			refused(t, what+", one emptied", laid(replaced(parts, i, "")), api.ErrForm)
			for k := range i {
				refused(t, what+", one behind", laid(slices.Insert(slices.Clone(parts), k, p)), api.ErrForm)
				refused(t, what+", one in another's place", laid(replaced(parts, k, p)), api.ErrForm)
				swapped := replaced(replaced(parts, i, parts[k]), k, p)
				refused(t, what+", two swapped", laid(swapped), api.ErrForm)
			}
		}
	}
}

// P12.2: as many parts as the first one says, and yet not in their order, or not all that a space must have.
func TestDecodePartsAndCounts(t *testing.T) {
	parts := partsOf(town())
	nodes, leases := parts[1:8], parts[8:]
	head := func(nodes, leases int) string { return "T" + numbered(40, 200, 30, 7, nodes, leases) }
	for what, l := range map[string][]string{
		"a node twice":          slices.Concat([]string{head(8, 2)}, nodes, nodes[6:], leases),
		"a lease twice":         slices.Concat([]string{head(7, 3)}, nodes, leases, leases[1:]),
		"no nodes":              slices.Concat([]string{head(0, 2)}, leases),
		"no leases":             slices.Concat([]string{head(7, 0)}, nodes),
		"leases ahead of nodes": slices.Concat([]string{head(7, 2)}, leases, nodes),
		"all are nodes":         slices.Concat([]string{head(9, 0)}, nodes, leases),
		"all are leases":        slices.Concat([]string{head(0, 9)}, nodes, leases),
		"one node fewer":        slices.Concat([]string{head(6, 3)}, nodes, leases),
		"one node more":         slices.Concat([]string{head(8, 1)}, nodes, leases),
		"a head alone":          {head(7, 2)},
		"a head of nothing":     {head(0, 0)},
		"no head":               slices.Concat(nodes, leases),
		"two heads":             slices.Concat(parts[:1], parts),
		"a head at the end":     slices.Concat(parts[1:], parts[:1]),
		"an empty part":         {""},
		"many empty parts":      make([]string, 100000),
		"many nodes":            slices.Concat([]string{head(100000, 0)}, slices.Repeat(nodes[:1], 100000)),
		"many leases":           slices.Concat([]string{head(1, 100000)}, nodes[:1], slices.Repeat(leases[:1], 100000)),
	} {
		refused(t, what, laid(l), api.ErrForm)
	}
	whole := slices.Concat([]string{head(6, 2)}, nodes[:6], leases)
	want := with(town(), func(s *api.Space) { s.Nodes = s.Nodes[:6] })
	wantBoth(t, "the last node is gone, and the count says so", want, laid(whole))
}

// P12.2, P6: counts of nodes and leases that are others than there are, below 0, very great, and such as make the right number when they wrap.
func TestDecodeCounts(t *testing.T) {
	for what, s := range some() {
		parts := partsOf(s)
		nodes, leases := len(s.Nodes), len(s.Leases)
		edges := []int{math.MinInt, math.MinInt + 1, -greatest, -2, -1, 0, 1, 2, 3, nodes - 1, nodes, nodes + 1, leases - 1, leases, leases + 1, nodes + leases, 60, 61, 64, greatest, greatest + 1, math.MaxInt - 1, math.MaxInt}
		edges = append(edges, nodes+math.MinInt, leases+math.MinInt, nodes+leases-math.MaxInt, nodes+leases+1, math.MaxInt-nodes, math.MaxInt-leases)
		for _, n := range edges {
			for _, l := range edges {
				head := "T" + numbered(s.Txid, s.NextBlock, s.NextGen, s.Now, n, l)
				if n != nodes || l != leases {
					refused(t, what, laid(replaced(parts, 0, head)), api.ErrForm)
				}
			}
			if l := nodes + leases - n; n != nodes { // wraps, where n is very little
				head := "T" + numbered(s.Txid, s.NextBlock, s.NextGen, s.Now, n, l)
				refused(t, what, laid(replaced(parts, 0, head)), api.ErrForm)
			}
		}
	}
}

// P12.2: the first letter is another one, or none, or there are two.
func TestDecodeLetter(t *testing.T) {
	for what, s := range some() {
		parts := partsOf(s)
		numbers := parts[0][1:]
		for c := range 256 {
			if c != 'T' {
				refused(t, what, laid(replaced(parts, 0, string([]byte{byte(c)})+numbers)), api.ErrForm)
			}
		}
		for _, head := range []string{"", "T", numbers, "TT" + numbers, "\x02T" + numbers, "T\x00" + numbers, numbers + "T"} {
			refused(t, what, laid(replaced(parts, 0, head)), api.ErrForm)
		}
	}
}

// numbersAt: the places in a part of s at which a number begins, and how many bytes it has.
func numbersAt(t *testing.T, s api.Space, part int) (places [][2]int) {
	t.Helper()
	b := partsOf(s)[part]
	at, skip := 0, 0
	switch {
	case part == 0:
		at = 1
	case part <= len(s.Nodes):
		skip = len(s.Nodes[part-1].Path)
	}
	for at < len(b) {
		size := 1
		for b[at+size-1] >= 0x80 {
			size++
		}
		places = append(places, [2]int{at, size})
		at += size + skip
		skip = 0
	}
	return places
}

// P12.2: a number that is written longer than Num writes it, wherever it stands, also a count and the length of a text.
func TestDecodeLongerNumbers(t *testing.T) {
	for what, s := range some() {
		parts := partsOf(s)
		for i, part := range parts {
			for _, p := range numbersAt(t, s, i) {
				ahead, behind := part[:p[0]], part[p[0]+p[1]:]
				number := []byte(part[p[0] : p[0]+p[1]])
				for len(number) < 12 {
					number[len(number)-1] |= 0x80
					number = append(number, 0)
					refused(t, what, laid(replaced(parts, i, ahead+string(number)+behind)), api.ErrForm)
				}
				refused(t, what, laid(replaced(parts, i, ahead+strings.Repeat("\xff", 10)+"\x01"+behind)), api.ErrForm)
			}
		}
	}
}

// P12.2: another number in the place of one is taken just where the space is right with it, and the bytes stand for it.
func TestDecodeOtherNumbers(t *testing.T) {
	edges := []int{math.MinInt, -greatest, -3, -2, -1, 0, 1, 2, 3, 4, 5, 6, 7, 8, 9, 10, 29, 30, 63, 64, 65, 119, 120, 121, 199, 200, 300, 301, greatest - 10, greatest - 9, greatest, greatest + 1, math.MaxInt}
	tally := map[api.Errno]int{}
	for _, s := range some() {
		parts := partsOf(s)
		for i, part := range parts {
			for _, p := range numbersAt(t, s, i) {
				for _, n := range edges {
					tally[hold(t, laid(replaced(parts, i, part[:p[0]]+numbered(n)+part[p[0]+p[1]:])))]++
				}
			}
		}
	}
	if tally[api.OK] < 200 || tally[api.ErrForm] < 1000 {
		t.Errorf("too little was tried: %v", tally)
	}
}

// P12.2: bytes behind the last number of a part, and parts that end too early, both sealed rightly.
func TestDecodePartsOfOtherLengths(t *testing.T) {
	for what, s := range some() {
		parts := partsOf(s)
		for i, part := range parts {
			for c := range 256 {
				refused(t, what, laid(replaced(parts, i, part+string([]byte{byte(c)}))), api.ErrForm)
			}
			for _, more := range []string{numbered(1, 1, 1), part, strings.Repeat("\x00", 3000)} {
				refused(t, what, laid(replaced(parts, i, part+more)), api.ErrForm)
			}
			for k := range part {
				refused(t, what, laid(replaced(parts, i, part[:k])), api.ErrForm)
				refused(t, what, laid(replaced(parts, i, part[k+1:])), api.ErrForm)
			}
		}
	}
}

// P12.2: a node is 0 or 1, nothing else.
func TestDecodeWhat(t *testing.T) {
	parts := partsOf(town())
	for _, what := range []int{math.MinInt, -256, -255, -2, -1, 2, 3, 254, 255, 256, 257, 1 << 32, 1<<32 + 1, math.MaxInt} {
		for i, p := range map[int]string{1: "/", 3: "/a/b", 7: "/h"} {
			part := numbered(len(p)) + p + numbered(what, -1, -1, 0)
			refused(t, "a node that is "+strconv.Itoa(what), laid(replaced(parts, i, part)), api.ErrForm)
		}
	}
	turned := laid(replaced(parts, 7, "\x04/h"+numbered(1, -1, -1, 0)))
	wantBoth(t, "a directory in a file's place", with(town(), func(s *api.Space) { s.Nodes[6].Dir = true }), turned)
}

// P12.2, P6: a count of blocks that is another one than there are, below 0, or beyond what there may be, in a file and in a directory.
func TestDecodeBlockCounts(t *testing.T) {
	parts := partsOf(town())
	triple := func(i int) string { return numbered(100+i, 1, 1) }
	for _, many := range []int{math.MinInt, math.MinInt + 3, -greatest, -8, -3, -1, 0, 1, 2, 3, 7, 8, 9, 10, 64, 1000, greatest, 1 << 32, math.MaxInt} {
		blocks := ""
		for there := range 12 {
			part := "\x04/h" + numbered(0, -1, -1, many) + blocks
			b := laid(replaced(parts, 7, part))
			if many == there && many <= 8 {
				want := with(town(), func(s *api.Space) {
					for i := range many {
						s.Nodes[6].Blocks = append(s.Nodes[6].Blocks, block(100+i, 1, 1))
					}
				})
				wantBoth(t, "as many as there are", want, b)
			} else {
				refused(t, "blocks "+strconv.Itoa(many)+" of "+strconv.Itoa(there), b, api.ErrForm)
			}
			if many != 0 || there != 0 {
				refused(t, "blocks of a directory", laid(replaced(parts, 7, "\x04/h"+numbered(1, -1, -1, many)+blocks)), api.ErrForm)
			}
			blocks += triple(there)
		}
	}
}

// P12.2: paths that are too long, longer than what is there, or longer than a text may be; a part of as many bytes as it may have.
func TestDecodePaths(t *testing.T) {
	parts := partsOf(town())
	rest := numbered(0, -1, -1, 0)
	for _, n := range []int{22, 120, 121, 122, 1000, 3900} { // a name is too long ahead of a path
		p := "/" + strings.Repeat("h", n-1)
		refused(t, "a path of "+strconv.Itoa(n), laid(replaced(parts, 7, numbered(n)+p+rest)), api.ErrForm)
	}
	for names := 7; names < 100; names++ {
		p := strings.Repeat("/h", names)
		refused(t, "a path of many names", laid(replaced(parts, 7, numbered(len(p))+p+rest)), api.ErrForm)
	}
	for _, n := range []int{math.MinInt, -greatest, -2, -1, 0, 1, 3, 4, 5, 6, 7, 63, 64, 3998, 4000, 4001, greatest, math.MaxInt} {
		refused(t, "a path of another length", laid(replaced(parts, 7, numbered(n)+"/h"+rest)), api.ErrForm)
	}
	longest := "\x04/h" + rest
	longest += strings.Repeat("\x00", 4000-len(longest))
	refused(t, "as many bytes as a part may have", laid(replaced(parts, 7, longest)), api.ErrForm)
	refused(t, "one more", laid(replaced(parts, 7, longest+"\x00")), api.ErrForm)
	wantBoth(t, "a name of MaxName bytes", with(town(), func(s *api.Space) { s.Nodes[6].Path = "/h" + strings.Repeat("h", 19) }),
		laid(replaced(parts, 7, "\x2a/h"+strings.Repeat("h", 19)+rest)))
}

// P12.2, P2: each part is written rightly, and the space is not right.
func TestDecodeNotRight(t *testing.T) {
	for what, s := range wrongs() {
		refused(t, what, laid(partsOf(s)), api.ErrForm)
	}
}

// spoilt: part i with another sum.
func spoilt(part string) string {
	b := []byte(sealing(part))
	b[len(b)-1] ^= 1
	return string(b)
}

// P12.2: a part with another sum is told, whatever the parts hold; the first part that is not taken says which error it is.
func TestDecodeWhichError(t *testing.T) {
	good, bad := sealing("T\x00"), spoilt("T\x00")
	long := numbered(4001) + strings.Repeat("x", 4005)
	for _, c := range []struct {
		what, b string
		want    api.Errno
	}{
		{"a sum", bad, api.ErrSum},
		{"a sum behind what is no part of a space", good + bad, api.ErrSum},
		{"a sum ahead of it", bad + good, api.ErrSum},
		{"a sum behind an empty part", sealing("") + bad, api.ErrSum},
		{"too short", good[:5], api.ErrForm},
		{"too short behind what is no part of a space", good + good[:5], api.ErrForm},
		{"a sum, and then too short", bad + good[:5], api.ErrSum},
		{"too short, as the sum of the first is not there", good[:4] + "\x00", api.ErrForm},
		{"too long, and then a sum", long + bad, api.ErrForm},
		{"a sum, and then too long", bad + long, api.ErrSum},
		{"a length below 0, and then a sum", "\x01" + bad, api.ErrForm},
		{"a sum, and then a length below 0", bad + "\x01", api.ErrSum},
		{"a length not in its shortest form, and then a sum", "\x80\x00" + bad, api.ErrForm},
		{"a sum, and then a length not in its shortest form", bad + "\x80\x00", api.ErrSum},
		{"much, and then a sum", strings.Repeat(good, 10000) + bad, api.ErrSum},
		{"much, and then too short", strings.Repeat(good, 10000) + "\x02", api.ErrForm},
	} {
		refused(t, c.what, c.b, c.want)
	}
}

// P12.2, P12.3: a part with another sum, at each place, alone and ahead of, or behind, what is too short, or holds something else.
func TestDecodeSums(t *testing.T) {
	for what, s := range some() {
		parts := partsOf(s)
		for i := range parts {
			ahead, behind := laid(parts[:i]), laid(parts[i+1:])
			whole := ahead + spoilt(parts[i]) + behind
			refused(t, what, whole, api.ErrSum)
			refused(t, what, whole+"\x00", api.ErrSum)
			refused(t, what, whole+"\x01\x00\x00\x00\x00", api.ErrSum)
			refused(t, what, "\x01"+whole, api.ErrForm)
			refused(t, what, whole[:len(ahead)+len(sealing(parts[i]))], api.ErrSum)
			refused(t, what, whole[:len(ahead)+len(sealing(parts[i]))-1], api.ErrForm)
			refused(t, what, sealing("")+whole, api.ErrSum)
			refused(t, what, sealing("another letter")+whole, api.ErrSum)
			for k := range parts {
				if k < i {
					other := laid(replaced(parts[:i], k, "something else")) + spoilt(parts[i]) + behind
					refused(t, what, other, api.ErrSum)
				}
				if k > i {
					cut := ahead + spoilt(parts[i]) + laid(parts[i+1:k]) + sealing(parts[k])[:3]
					refused(t, what, cut, api.ErrSum)
				}
			}
		}
	}
}

// P12.3: one bit that is turned, at each place, is told; where it stands in what a part holds, or in its sum, as ErrSum.
func TestDecodeTurnedBits(t *testing.T) {
	for what, s := range map[string]api.Space{"no edit": space.New(), "the village": village(), "the town": town(), "the city": city()} {
		b := []byte(laid(partsOf(s)))
		at := 0
		for _, p := range partsOf(s) {
			size := len(sealing(p))
			count := len(numbered(len(p)))
			for i := range size {
				for bit := range 8 {
					if len(b) > 1000 && bit != i%8 { // not all of them at each place: there are many
						continue
					}
					b[at+i] ^= 1 << bit
					if i >= count {
						refused(t, what, string(b), api.ErrSum)
					} else if hold(t, string(b)) == api.OK {
						t.Errorf("%s: bit %d of byte %d is turned, and not told", what, bit, at+i)
					}
					b[at+i] ^= 1 << bit
				}
			}
			at += size
		}
	}
}

// P12.2: any other bytes: much of one byte, texts, and what other layers write.
func TestDecodeOtherBytes(t *testing.T) {
	for c := range 256 {
		for _, many := range []int{1, 2, 4, 5, 6, 10, 11, 12, 100, 5000, 100000} {
			if hold(t, strings.Repeat(string([]byte{byte(c)}), many)) == api.OK {
				t.Errorf("%d times %x is taken", many, c)
			}
		}
	}
	for _, b := range []string{"T", "\x02T", "T\x00\x02\x02\x00\x02\x00", "\x0eT\x00\x02\x02\x00\x02\x00", "/", "tabularium"} {
		refused(t, "a text", b, api.ErrForm)
		refused(t, "a sealed text", sealing(b), api.ErrForm)
	}
	refused(t, "the root's part, which is not sealed, so that its numbers count as a sum", "\x02/\x02\x01\x01\x00", api.ErrSum)
}
