package journal

import (
	"fmt"
	"math/rand/v2"
	"slices"
	"strings"
	"testing"

	"tabularium/api"
	"tabularium/disk"
)

// has is what a node has.
type has struct {
	promised int
	log      api.Log
}

// deed is a request that changes a node, and what the node has behind each call of the disk that it takes.
type deed struct {
	ahead   has
	request string
	answer  string
	then    has
	calls   int // without what was left in the new files
	middle  int // how many of these calls there are until the promise is in its place
}

// deeds: one of each kind, by what it is.
func deeds() map[string]deed {
	l := logOf(4, "x", "yy")
	return map[string]deed{
		"p":                    {has{4, l}, promising(5), sayingLog(l), has{5, l}, 3, 3},
		"the first p":          {has{}, promising(1), sayingLog(api.Log{}), has{1, api.Log{}}, 3, 3},
		"a, as promised":       {has{5, l}, accepting(5, "x", "z"), saying(api.OK), has{5, logOf(5, "x", "z")}, 3, 0},
		"a, as promised first": {has{5, api.Log{}}, accepting(5, "x"), saying(api.OK), has{5, logOf(5, "x")}, 3, 0},
		"a, greater":           {has{4, l}, accepting(6, "x", "yy", "z"), saying(api.OK), has{6, logOf(6, "x", "yy", "z")}, 6, 3},
		"the first a":          {has{}, accepting(1), saying(api.OK), has{1, logOf(1)}, 6, 3},
		"w":                    {has{4, l}, adding(4, 3, "zzz"), saying(api.OK), has{4, logOf(4, "x", "yy", "zzz")}, 2, 0},
		"the first w":          {has{4, logOf(4)}, adding(4, 1, ""), saying(api.OK), has{4, logOf(4, "")}, 2, 0},
	}
}

// lasting: what a node has, that is opened when the power went with the n-th call of the deed, and k bytes last.
func (x deed) lasting(n, k int) has {
	switch {
	case x.calls == 2:
		more := len(bytesOf(x.then.log)) - len(bytesOf(x.ahead.log))
		if n == 2 && k%(more+1) == more {
			return x.then
		}
		return x.ahead
	case n > x.middle && x.middle > 0:
		return has{x.then.promised, x.ahead.log}
	}
	return x.ahead
}

// P15.3, P15.4: the power goes with each call of the disk, and each number of bytes lasts: ErrLost, and the node is dead, also when the power is there again; a node that is opened anew has what it had, or the part that was done, and does it all then.
func TestHandlePower(t *testing.T) {
	for kind, x := range deeds() {
		for n := 1; n <= x.calls; n++ {
			for k := range len(bytesOf(x.then.log)) + 2 {
				what := fmt.Sprintf("%s, call %d, %d bytes last", kind, n, k)
				j, d := having(t, x.ahead.promised, x.ahead.log)
				d.Fuse(n)
				wantAnswer(t, what, j, x.request, saying(api.ErrLost))
				if !d.Down() {
					t.Fatalf("%s: the power is there", what)
				}
				wantDead(t, what, j, d)
				d.Crash(slices.Repeat([]int{k}, 20))
				wantDead(t, what+", behind the crash", j, d)
				left := x.lasting(n, k)
				again := opened(t, what, d)
				wantNode(t, what, again, left.promised, left.log)
				wantAnswer(t, what+", again", again, x.request, x.answer)
				wantHaving(t, what, again, d, x.then.promised, x.then.log)
				wantDead(t, what+", behind another node", j, d)
			}
		}
	}
}

// P15.3: no deed takes more or fewer calls of the disk than that; with what was left in a new file one more, for each.
func TestHandleCalls(t *testing.T) {
	for kind, x := range deeds() {
		for _, left := range []bool{false, true} {
			calls := x.calls
			if left {
				calls += x.calls / 3
			}
			for n := 1; n <= calls+1; n++ {
				what := fmt.Sprintf("%s, call %d of %d", kind, n, calls)
				d := diskOf(t, x.ahead.promised, x.ahead.log)
				if left {
					put(t, d, "log.new", "left")
					put(t, d, "promise.new", "left")
				}
				j := opened(t, what, d)
				d.Fuse(n)
				if n <= calls {
					wantAnswer(t, what, j, x.request, saying(api.ErrLost))
					continue
				}
				wantAnswer(t, what, j, x.request, x.answer)
				wantNode(t, what, j, x.then.promised, x.then.log)
				if d.Down() {
					t.Errorf("%s: there were more", what)
				}
			}
		}
	}
}

// P15.3: an answer that is OK is given when all of it lasts.
func TestHandleLasts(t *testing.T) {
	for kind, x := range deeds() {
		for k := range 30 {
			j, d := having(t, x.ahead.promised, x.ahead.log)
			wantAnswer(t, kind, j, x.request, x.answer)
			d.Fuse(1)
			want(t, "the power goes", d.Append("log", "more"), api.ErrLost)
			d.Crash(slices.Repeat([]int{k}, 20))
			wantHaving(t, kind, opened(t, kind, d), d, x.then.promised, x.then.log)
		}
	}
}

// P15.2, P15.3: a disk that is down already: what needs no call of it is answered as ever, with all else the node is dead.
func TestHandleWithoutPower(t *testing.T) {
	for kind, x := range deeds() {
		j, d := having(t, x.ahead.promised, x.ahead.log)
		put(t, d, "z", "z")
		d.Fuse(1)
		want(t, "the power goes", d.Sync("z"), api.ErrLost)
		wantAnswer(t, kind, j, "no request", saying(api.ErrForm))
		if n := x.ahead.promised; n > 0 {
			wantAnswer(t, kind, j, promising(n), saying(api.ErrFence))
		}
		if n := x.ahead.log.Epoch; n == x.ahead.promised && n > 0 {
			wantAnswer(t, kind, j, accepting(n), saying(api.OK))
			wantAnswer(t, kind, j, adding(n, 5, "x"), saying(api.ErrGap))
		}
		wantNode(t, kind, j, x.ahead.promised, x.ahead.log)
		wantAnswer(t, kind, j, x.request, saying(api.ErrLost))
		wantDead(t, kind, j, d)
		d.Crash(nil)
		wantDead(t, kind, j, d)
		wantNode(t, kind, opened(t, kind, d), x.ahead.promised, x.ahead.log)
	}
}

// P15.3: each error of the disk is ErrLost, and kills the node: no room, up to just enough.
func TestHandleWithoutRoom(t *testing.T) {
	for kind, x := range deeds() {
		refusals, enough := 0, false
		for room := 0; room < 1000 && !enough; room++ {
			d := disk.New(room)
			if !fits(d, filesOf(x.ahead.promised, x.ahead.log)) {
				continue
			}
			j := opened(t, kind, d)
			answer := j.Handle(x.request)
			if enough = answer == x.answer; enough {
				wantHaving(t, kind, j, d, x.then.promised, x.then.log)
				continue
			}
			if refusals++; answer != saying(api.ErrLost) {
				t.Errorf("%s, %d bytes: the answer is %q", kind, room, answer)
			}
			wantDead(t, kind, j, d)
			now := opened(t, kind, d)
			if now.Promised() != x.ahead.promised && (now.Promised() != x.then.promised || x.calls < 6) || !same(now.Log(), x.ahead.log) {
				t.Errorf("%s, %d bytes: promised %d, %s", kind, room, now.Promised(), brief(now.Log()))
			}
		}
		if refusals < 5 || !enough {
			t.Errorf("%s: enough %v, when it was refused %d times", kind, enough, refusals)
		}
	}
}

// fits: the files come to stand on d, synced, if there is room.
func fits(d *disk.Disk, files []string) bool {
	for i := 0; i < len(files); i += 2 {
		if d.Append(files[i], files[i+1]) != api.OK || d.Sync(files[i]) != api.OK {
			return false
		}
	}
	return true
}

// P15.3: as many files as there may be, a log's file that is as great as may be, and one that is gone.
func TestHandleOtherErrors(t *testing.T) {
	for kind, x := range deeds() {
		j, d := having(t, x.ahead.promised, x.ahead.log)
		for i := len(d.List()); i < 20; i++ {
			put(t, d, fmt.Sprint("f", i), "f")
		}
		if x.calls == 2 {
			wantAnswer(t, kind, j, x.request, x.answer)
			continue
		}
		wantAnswer(t, kind, j, x.request, saying(api.ErrLost))
		wantDead(t, kind, j, d)
	}
	x := deeds()["w"]
	j, d := having(t, x.ahead.promised, x.ahead.log)
	want(t, "Delete", d.Delete("log"), api.OK)
	wantAnswer(t, "no log", j, x.request, saying(api.ErrLost))
	wantDead(t, "no log", j, d)
	j, d = having(t, x.ahead.promised, x.ahead.log)
	log, _ := d.Read("log")
	put(t, d, "log", log+strings.Repeat("z", 400000-len(log)))
	wantAnswer(t, "a great log", j, x.request, saying(api.ErrLost))
	wantDead(t, "a great log", j, d)
}

// forgotten: what a node that is opened anew has not any more of what one had, nothing if it has all. More may be there: of a request whose answer was lost.
func (x has) forgotten(j *Journal) string {
	l := j.Log()
	switch {
	case j.Promised() < x.promised:
		return fmt.Sprint("promised ", j.Promised(), ", not ", x.promised)
	case l.Epoch < x.log.Epoch:
		return fmt.Sprint("the log's epoch is ", l.Epoch, ", not ", x.log.Epoch)
	case l.Epoch == x.log.Epoch && !beginsWith(l, x.log.Entries):
		return fmt.Sprint("the log is ", brief(l), ", not ", brief(x.log))
	}
	return ""
}

func beginsWith(l api.Log, entries []api.Entry) bool {
	return len(l.Entries) >= len(entries) && slices.Equal(l.Entries[:len(entries)], entries)
}

// anyRequest: one that a node in that state may well be asked, and whether a node has what was answered OK to it.
func anyRequest(r *rand.Rand, now has) (request string, kept func(has) bool) {
	epoch := max(1, now.promised+r.IntN(4)-1)
	data := dataOf(now.log)
	switch r.IntN(4) {
	case 0:
		return promising(epoch), func(then has) bool { return then.promised == epoch }
	case 1:
		if r.IntN(2) == 0 {
			data = strings.Split("abcdef", "")[:r.IntN(6)]
		}
		return accepting(epoch, data...), func(then has) bool {
			return then.promised >= epoch && then.log.Epoch == epoch && beginsWith(then.log, logOf(epoch, data...).Entries)
		}
	}
	epoch = max(1, now.log.Epoch)
	x := api.Entry{Txid: len(data) + r.IntN(3), Data: strings.Repeat("d", r.IntN(5))}
	x.Txid = max(1, x.Txid)
	return adding(epoch, x.Txid, x.Data), func(then has) bool {
		return then.promised == epoch && then.log.Epoch == epoch && slices.Contains(then.log.Entries, x)
	}
}

// P15.4: whatever is asked, and whenever the power goes, a node has what it answered OK to, and one that is opened anew has all that it had.
func TestNothingIsForgotten(t *testing.T) {
	r := rand.New(rand.NewPCG(15, 4))
	falls, answers := 0, 0
	for range 400 {
		d := disk.New(plenty)
		j, now := opened(t, "at first", d), has{}
		for range 80 {
			if r.IntN(4) == 0 {
				d.Fuse(1 + r.IntN(8))
			}
			request, kept := anyRequest(r, now)
			_, e := Told(j.Handle(request))
			if !j.Dead() {
				now.promised, now.log = j.Promised(), j.Log()
			}
			if e == api.OK {
				answers++
			}
			if e == api.OK && !kept(now) {
				t.Fatalf("%q was answered OK: promised %d, %s", request, now.promised, brief(now.log))
			}
			if j.Dead() || r.IntN(10) == 0 {
				d.Crash([]int{r.IntN(30), r.IntN(30), r.IntN(30), r.IntN(30)})
				j = opened(t, "behind a crash", d)
				falls++
			}
			if why := now.forgotten(j); why != "" {
				t.Fatal(why)
			}
			now.promised, now.log = j.Promised(), j.Log()
		}
	}
	if falls < 2000 || answers < 5000 {
		t.Errorf("too little was tried: %d falls, %d answers of OK", falls, answers)
	}
}
