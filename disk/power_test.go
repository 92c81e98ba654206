package disk

import (
	"math"
	"strings"
	"testing"

	"tabularium/api"
)

// a deed is one of the four calls that a fuse counts.
type deed struct {
	what string
	do   func(d *Disk) api.Errno
}

// pair: a disk with the files a and b, their bytes synced.
func pair(t *testing.T) *Disk {
	t.Helper()
	d := New(10)
	put(t, d, "a", "xyz")
	put(t, d, "b", "12")
	return d
}

func wantPair(t *testing.T, d *Disk) {
	t.Helper()
	wantList(t, d, "a", "b")
	wantRead(t, d, "a", "xyz")
	wantRead(t, d, "b", "12")
	wantUsed(t, d, 5)
}

// rightDeeds: what a pair tells no error of.
func rightDeeds() []deed {
	return []deed{
		{"Append", func(d *Disk) api.Errno { return d.Append("a", "uvw") }},
		{"Append of a new one", func(d *Disk) api.Errno { return d.Append("c", "uvw") }},
		{"Append of nothing", func(d *Disk) api.Errno { return d.Append("a", "") }},
		{"Sync", func(d *Disk) api.Errno { return d.Sync("a") }},
		{"Rename", func(d *Disk) api.Errno { return d.Rename("a", "c") }},
		{"Rename to one that is there", func(d *Disk) api.Errno { return d.Rename("a", "b") }},
		{"Rename to itself", func(d *Disk) api.Errno { return d.Rename("a", "a") }},
		{"Delete", func(d *Disk) api.Errno { return d.Delete("a") }},
	}
}

// wrongDeeds: what a pair tells an error of; all of them leave it as it is.
func wrongDeeds() []deed {
	return []deed{
		{"Append to no name", func(d *Disk) api.Errno { return d.Append("", "u") }},
		{"Append to a long name", func(d *Disk) api.Errno { return d.Append(tooLong, "u") }},
		{"Append of too much", func(d *Disk) api.Errno { return d.Append("a", strings.Repeat("u", api.MaxFile)) }},
		{"Append without room", func(d *Disk) api.Errno { return d.Append("a", "uvwuvw") }},
		{"Sync of none", func(d *Disk) api.Errno { return d.Sync("c") }},
		{"Rename to no name", func(d *Disk) api.Errno { return d.Rename("a", "") }},
		{"Rename of none", func(d *Disk) api.Errno { return d.Rename("c", "a") }},
		{"Rename of none to itself", func(d *Disk) api.Errno { return d.Rename("c", "c") }},
		{"Delete of none", func(d *Disk) api.Errno { return d.Delete("c") }},
	}
}

// P4.2: the power goes with the call that the fuse is at, and that call does nothing.
func TestFuseAtEachCall(t *testing.T) {
	for _, x := range rightDeeds() {
		d := pair(t)
		d.Fuse(1)
		wantDown(t, d, false)
		want(t, x.what, x.do(d), api.ErrLost)
		wantDown(t, d, true)
		d.Crash([]int{-1, -1, -1})
		wantPair(t, d)
	}
}

// P4.2: a Sync at which the power goes has synced nothing, an Append has left no byte.
func TestFuseDoesNothing(t *testing.T) {
	d := New(10)
	put(t, d, "a", "xyz")
	want(t, "Append", d.Append("a", "uvw"), api.OK)
	d.Fuse(1)
	want(t, "Sync", d.Sync("a"), api.ErrLost)
	d.Crash(nil)
	wantRead(t, d, "a", "xyz")
	d.Fuse(1)
	want(t, "Append", d.Append("a", "uvw"), api.ErrLost)
	d.Crash([]int{3})
	wantRead(t, d, "a", "xyz")
	d.Fuse(1)
	want(t, "Append of a new one", d.Append("b", "1"), api.ErrLost)
	d.Crash([]int{1, 1})
	wantList(t, d, "a")
	want(t, "that file in truth", d.Append("b", "1"), api.OK)
	d.Crash([]int{0, 1})
	wantList(t, d, "a", "b")
}

// P4.2: the n-th call, from 1 on, of all four together.
func TestFuseCounts(t *testing.T) {
	for n := 1; n <= 6; n++ {
		d := New(100)
		put(t, d, "a", "xyz")
		d.Fuse(n)
		calls := []deed{
			{"Append", func(d *Disk) api.Errno { return d.Append("a", "u") }},
			{"Sync", func(d *Disk) api.Errno { return d.Sync("a") }},
			{"Rename", func(d *Disk) api.Errno { return d.Rename("a", "b") }},
			{"Append", func(d *Disk) api.Errno { return d.Append("a", "v") }},
			{"Delete", func(d *Disk) api.Errno { return d.Delete("b") }},
			{"Sync", func(d *Disk) api.Errno { return d.Sync("a") }},
		}
		for i, x := range calls {
			e := api.OK
			if i+1 >= n {
				e = api.ErrLost
			}
			want(t, x.what, x.do(d), e)
			wantDown(t, d, i+1 >= n)
		}
	}
}

// P4.2: a call that tells an error all the same does not burn the fuse, and tells its own error at it.
func TestFuseAtAnError(t *testing.T) {
	for _, x := range wrongDeeds() {
		e := x.do(pair(t))
		if e == api.OK || e == api.ErrLost {
			t.Fatalf("%s: error %d", x.what, e)
		}
		d := pair(t)
		d.Fuse(2)
		for range 3 {
			want(t, x.what, x.do(d), e)
			wantDown(t, d, false)
		}
		wantPair(t, d)
		want(t, "the first", d.Sync("a"), api.OK)
		want(t, x.what, x.do(d), e)
		wantDown(t, d, false)
		want(t, "the second", d.Sync("a"), api.ErrLost)
		wantDown(t, d, true)
	}
}

// P4.2: one file too many, and no room for it, are no calls that count.
func TestFuseAtTheLimits(t *testing.T) {
	d := full(t, api.MaxFiles)
	d.Fuse(1)
	want(t, "one more", d.Append("more", ""), api.ErrLong)
	want(t, "no room", d.Append("f00", "x"), api.ErrFull)
	wantDown(t, d, false)
	want(t, "nothing", d.Append("f00", ""), api.ErrLost)
	wantDown(t, d, true)
}

// P4.2: what only asks does not burn the fuse.
func TestFuseAtQuestions(t *testing.T) {
	d := pair(t)
	d.Fuse(1)
	for range 3 {
		wantPair(t, d)
		wantNoRead(t, d, "c", api.ErrNone)
		wantDown(t, d, false)
	}
	want(t, "Delete", d.Delete("a"), api.ErrLost)
}

// P4.2: below 1 there is no fuse, and none any more.
func TestNoFuse(t *testing.T) {
	for _, n := range []int{0, -1, -2, math.MinInt, math.MinInt + 1} {
		d := pair(t)
		d.Fuse(n)
		for range 4 {
			want(t, "Sync", d.Sync("a"), api.OK)
		}
		d.Fuse(2)
		want(t, "Sync", d.Sync("a"), api.OK)
		d.Fuse(n)
		for range 4 {
			want(t, "Sync", d.Sync("a"), api.OK)
		}
		wantDown(t, d, false)
	}
}

// P4.2: a fuse counts from its own call on, whatever was laid ahead of it; the greatest number is one, too.
func TestFuseAnew(t *testing.T) {
	d := pair(t)
	d.Fuse(2)
	want(t, "Sync", d.Sync("a"), api.OK)
	d.Fuse(3)
	want(t, "Sync", d.Sync("a"), api.OK)
	want(t, "Sync", d.Sync("a"), api.OK)
	want(t, "Sync", d.Sync("a"), api.ErrLost)
	d.Crash(nil)
	d.Fuse(math.MaxInt)
	want(t, "Sync", d.Sync("a"), api.OK)
	d.Fuse(1)
	want(t, "Sync", d.Sync("a"), api.ErrLost)
}

// P4.2: without power each call tells ErrLost, ahead of all else, or nothing.
func TestWithoutPower(t *testing.T) {
	d := pair(t)
	d.Fuse(1)
	want(t, "Delete", d.Delete("b"), api.ErrLost)
	for range 2 {
		for _, x := range append(rightDeeds(), wrongDeeds()...) {
			want(t, x.what, x.do(d), api.ErrLost)
		}
		for _, name := range []string{"a", "c", "", tooLong} {
			wantNoRead(t, d, name, api.ErrLost)
		}
		if l := d.List(); len(l) != 0 {
			t.Errorf("List() = %q", l)
		}
		wantUsed(t, d, 0)
		wantDown(t, d, true)
	}
	d.Crash([]int{-1, -1})
	wantDown(t, d, false)
	wantPair(t, d)
}

// P4.2: no fuse brings the power back.
func TestFuseWithoutPower(t *testing.T) {
	for _, n := range []int{-1, 0, 1, 2} {
		d := pair(t)
		d.Fuse(1)
		want(t, "Sync", d.Sync("a"), api.ErrLost)
		d.Fuse(n)
		wantDown(t, d, true)
		want(t, "Sync", d.Sync("a"), api.ErrLost)
		wantDown(t, d, true)
		d.Crash(nil)
		for range 3 {
			want(t, "Sync behind the crash", d.Sync("a"), api.OK)
		}
		wantPair(t, d)
	}
}
