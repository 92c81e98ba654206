package lease

import (
	"math"
	"slices"
	"testing"

	"tabularium/api"
)

const (
	greatest = 1<<53 - 1     // MaxNumber
	latest   = greatest - 10 // MaxNumber less LeaseTicks
)

func of(client, until int) api.Lease {
	return api.Lease{Client: client, Until: until}
}

// list: leases in an array without spare room.
func list(l ...api.Lease) []api.Lease {
	return slices.Clip(l)
}

// noClients: numbers that are none of a client.
func noClients() []int {
	return []int{-1, 4, -2, 5, math.MinInt, math.MaxInt, math.MinInt + 1, 1 << 32, -1 << 32, 1<<32 + 1}
}

// noTimes: numbers that are no Until.
func noTimes() []int {
	return []int{-1, greatest + 1, -2, greatest + 2, math.MinInt, math.MaxInt, -greatest}
}

// someNows: numbers of all sizes.
func someNows() []int {
	return []int{math.MinInt, -greatest, -11, -10, -1, 0, 1, 9, 10, 11, latest, latest + 1, greatest, greatest + 1, math.MaxInt}
}

// rights: leases that are right.
func rights() map[string][]api.Lease {
	return map[string][]api.Lease{
		"nil":                 nil,
		"empty":               {},
		"zero":                {{}},
		"first client":        {of(0, 5)},
		"last client":         {of(3, 5)},
		"until 0":             {of(2, 0)},
		"until MaxNumber":     {of(2, greatest)},
		"first and last":      {of(0, 5), of(3, 5)},
		"neighbours":          {of(1, 5), of(2, 4)},
		"all":                 {of(0, 5), of(1, 4), of(2, 6), of(3, 4)},
		"all until 0":         {of(0, 0), of(1, 0), of(2, 0), of(3, 0)},
		"all until MaxNumber": {of(0, greatest), of(1, greatest), of(2, greatest), of(3, greatest)},
		"all at both ends":    {of(0, 0), of(1, greatest), of(2, 0), of(3, greatest)},
	}
}

// wrongs: leases that are not, though there would be something to find, to drop, to renew, and to be late with.
func wrongs() map[string][]api.Lease {
	all := map[string][]api.Lease{
		"two alike":               {of(1, 5), of(1, 5)},
		"two of one client":       {of(1, 5), of(1, 6)},
		"two of the first client": {of(0, 5), of(0, 6)},
		"two of the last client":  {of(0, 5), of(3, 5), of(3, 6)},
		"two that stand apart":    {of(1, 5), of(2, 5), of(1, 5)},
		"falling":                 {of(2, 5), of(1, 5)},
		"falling at the front":    {of(1, 5), of(0, 5), of(2, 5), of(3, 5)},
		"falling at the end":      {of(0, 5), of(1, 5), of(3, 5), of(2, 5)},
		"falling between":         {of(0, 5), of(2, 5), of(1, 5), of(3, 5)},
		"all falling":             {of(3, 5), of(2, 5), of(1, 5), of(0, 5)},
		"by their Until":          {of(2, 1), of(0, 2), of(1, 3)},
		"one more than all":       {of(0, 5), of(1, 5), of(2, 5), of(3, 5), of(4, 5)},
		"one ahead of all":        {of(-1, 5), of(0, 5), of(1, 5), of(2, 5), of(3, 5)},
		"very many":               slices.Repeat([]api.Lease{of(1, 5)}, 100000),
	}
	for i, client := range noClients() {
		all["no client alone"+string(rune('a'+i))] = list(of(client, 5))
		all["no client in front"+string(rune('a'+i))] = list(of(client, 5), of(1, 5))
		all["no client behind"+string(rune('a'+i))] = list(of(1, 5), of(client, 5))
	}
	for i, until := range noTimes() {
		all["no time alone"+string(rune('a'+i))] = list(of(1, until))
		all["no time in front"+string(rune('a'+i))] = list(of(0, until), of(1, 5))
		all["no time between"+string(rune('a'+i))] = list(of(0, 5), of(1, until), of(2, 5))
		all["no time behind"+string(rune('a'+i))] = list(of(1, 5), of(3, until))
	}
	return all
}

func wantRenew(t *testing.T, l []api.Lease, client, now int, want ...api.Lease) {
	t.Helper()
	if got, e := Renew(l, client, now); !slices.Equal(got, want) || e != api.OK {
		t.Errorf("Renew(%v, %d, %d) = %v, %d, not %v", l, client, now, got, e, want)
	}
}

func wantNoRenew(t *testing.T, l []api.Lease, client, now int) {
	t.Helper()
	if got, e := Renew(l, client, now); len(got) != 0 || e != api.ErrArg {
		t.Errorf("Renew(%.100v, %d, %d) = %v, %d, not ErrArg", l[:min(len(l), 9)], client, now, got, e)
	}
}

func wantDrop(t *testing.T, l []api.Lease, client int, want ...api.Lease) {
	t.Helper()
	if got, e := Drop(l, client); !slices.Equal(got, want) || e != api.OK {
		t.Errorf("Drop(%v, %d) = %v, %d, not %v", l, client, got, e, want)
	}
}

func wantUntil(t *testing.T, l []api.Lease, client, want int) {
	t.Helper()
	if got, ok := Until(l, client); got != want || !ok {
		t.Errorf("Until(%v, %d) = %d, %v, not %d", l, client, got, ok, want)
	}
}

func wantNoUntil(t *testing.T, l []api.Lease, client int) {
	t.Helper()
	if got, ok := Until(l, client); got != 0 || ok {
		t.Errorf("Until(%v, %d) = %d, %v, not 0, false", l[:min(len(l), 9)], client, got, ok)
	}
}

func wantLate(t *testing.T, l []api.Lease, now int, want ...int) {
	t.Helper()
	if got, e := Late(l, now); !slices.Equal(got, want) || e != api.OK {
		t.Errorf("Late(%v, %d) = %v, %d, not %v", l, now, got, e, want)
	}
}

// The limits that this chapter leans on.
func TestLimits(t *testing.T) {
	if api.MaxClients != 4 || api.LeaseTicks != 10 || api.MaxNumber != greatest {
		t.Error(api.MaxClients, api.LeaseTicks, api.MaxNumber)
	}
}

// P9.1: the chapter's example.
func TestExample(t *testing.T) {
	wantRenew(t, nil, 2, 5, of(2, 15))
	l, _ := Renew(nil, 2, 5)
	wantLate(t, l, 15)
	wantLate(t, l, 16, 2)
}

// P9.1: which leases are right, at their edges.
func TestRight(t *testing.T) {
	for name, l := range rights() {
		if !Right(l) {
			t.Errorf("%s: not right: %v", name, l)
		}
	}
	for client := range 4 {
		for _, until := range []int{0, 1, 10, latest, latest + 1, greatest - 1, greatest} {
			if !Right(list(of(client, until))) {
				t.Errorf("client %d until %d is not right", client, until)
			}
		}
	}
}

// P9.1: and which are not.
func TestNotRight(t *testing.T) {
	for name, l := range wrongs() {
		if Right(l) {
			t.Errorf("%s: right: %.100v", name, l[:min(len(l), 9)])
		}
	}
}

// P9.1: every order in which some of the clients stand: right if they rise.
func TestRightOrders(t *testing.T) {
	right := 0
	for number := range 5 * 5 * 5 * 5 {
		var l []api.Lease
		rising := true
		for rest := number; rest > 0; rest /= 5 {
			client := rest%5 - 1 // -1 among them, too
			rising = rising && client >= 0 && (len(l) == 0 || l[len(l)-1].Client < client)
			l = append(l, of(client, 7))
		}
		if Right(l) != rising {
			t.Errorf("Right(%v) = %v", l, !rising)
		}
		if rising {
			right++
		}
	}
	if right != 16 { // as many as there are choices of four clients
		t.Errorf("%d lists are right, not 16", right)
	}
}

// P9.1, P2: of leases that are not right every call answers so, and nothing beside it.
func TestNotRightIsRefused(t *testing.T) {
	for name, l := range wrongs() {
		for client := -1; client <= 4; client++ {
			wantNoRenew(t, l, client, 5)
			if got, e := Drop(l, client); len(got) != 0 || e != api.ErrArg {
				t.Errorf("%s: Drop of %d: %.100v, %d", name, client, got, e)
			}
			wantNoUntil(t, l, client)
		}
		for _, now := range someNows() {
			if got, e := Late(l, now); len(got) != 0 || e != api.ErrArg {
				t.Errorf("%s: Late at %d: %.100v, %d", name, now, got, e)
			}
		}
	}
}

// P9.1: Drop of the first, one between, the last, and of the only one.
func TestDrop(t *testing.T) {
	l := list(of(0, 5), of(1, 4), of(2, 6), of(3, greatest))
	wantDrop(t, l, 0, of(1, 4), of(2, 6), of(3, greatest))
	wantDrop(t, l, 1, of(0, 5), of(2, 6), of(3, greatest))
	wantDrop(t, l, 2, of(0, 5), of(1, 4), of(3, greatest))
	wantDrop(t, l, 3, of(0, 5), of(1, 4), of(2, 6))
	wantDrop(t, l[1:3], 1, of(2, 6))
	wantDrop(t, l[1:3], 2, of(1, 4))
	for i, x := range l {
		wantDrop(t, l[i:i+1], x.Client)
	}
}

// P9.1: Drop of a client that has none, or that is no client, leaves all as they are.
func TestDropNone(t *testing.T) {
	for _, l := range rights() {
		for _, client := range append(noClients(), 0, 1, 2, 3) {
			if !slices.ContainsFunc(l, func(x api.Lease) bool { return x.Client == client }) {
				wantDrop(t, l, client, l...)
			}
		}
	}
}

// P9.1: what was dropped twice is as if it was once; all of them can be dropped, in every order.
func TestDropAll(t *testing.T) {
	for _, order := range [][]int{{0, 1, 2, 3}, {3, 2, 1, 0}, {1, 3, 0, 2}, {2, 0, 3, 1}} {
		l := list(of(0, 1), of(1, 2), of(2, 3), of(3, 4))
		for i, client := range order {
			l, _ = Drop(l, client)
			wantNoUntil(t, l, client)
			wantDrop(t, l, client, l...)
			if len(l) != 3-i {
				t.Errorf("%d are left of 4 when %v are dropped", len(l), order[:i+1])
			}
		}
	}
}

// P9.1: Until of those that have a lease, also of 0: the bool tells that there is one.
func TestUntil(t *testing.T) {
	l := list(of(0, 0), of(1, greatest), of(3, 7))
	wantUntil(t, l, 0, 0)
	wantUntil(t, l, 1, greatest)
	wantUntil(t, l, 3, 7)
	for _, l := range rights() {
		for _, x := range l {
			wantUntil(t, l, x.Client, x.Until)
		}
	}
}

// P9.1: Until of one that has none, and of what is no client.
func TestUntilNone(t *testing.T) {
	wantNoUntil(t, list(of(0, 5), of(1, 5), of(3, 5)), 2)
	wantNoUntil(t, list(of(1, 5), of(3, 5)), 0)
	wantNoUntil(t, list(of(1, 5), of(2, 5)), 3)
	for client := range 4 {
		wantNoUntil(t, nil, client)
		wantNoUntil(t, []api.Lease{}, client)
	}
	for _, l := range rights() {
		for _, client := range noClients() {
			wantNoUntil(t, l, client)
		}
	}
}

// P9.1: at its Until a lease is not late yet, at one more it is.
func TestLateEdge(t *testing.T) {
	for _, until := range []int{0, 1, 5, 10, latest, greatest - 1, greatest} {
		for client := range 4 {
			l := list(of(client, until))
			wantLate(t, l, until-1)
			wantLate(t, l, until)
			wantLate(t, l, until+1, client)
			wantLate(t, l, math.MaxInt, client)
			wantLate(t, l, math.MinInt)
		}
	}
}

// P9.1: of several the late ones, by their clients, whichever of them is late the longest.
func TestLateSeveral(t *testing.T) {
	l := list(of(0, 8), of(1, 2), of(2, 8), of(3, 5))
	wantLate(t, l, 2)
	wantLate(t, l, 3, 1)
	wantLate(t, l, 5, 1)
	wantLate(t, l, 6, 1, 3)
	wantLate(t, l, 8, 1, 3)
	wantLate(t, l, 9, 0, 1, 2, 3)
	wantLate(t, l[2:], 6, 3)
	falling := list(of(0, 9), of(1, 8), of(2, 7), of(3, 6))
	wantLate(t, falling, 8, 2, 3)
	wantLate(t, falling, 10, 0, 1, 2, 3)
}

// P9.1: below 0 nobody is late, and without leases never.
func TestLateNobody(t *testing.T) {
	for _, now := range someNows() {
		wantLate(t, nil, now)
		wantLate(t, []api.Lease{}, now)
		if now < 0 {
			for _, l := range rights() {
				wantLate(t, l, now)
			}
		}
	}
	wantLate(t, list(of(0, 0), of(3, 0)), 0)
	wantLate(t, list(of(0, 0), of(3, 0)), 1, 0, 3)
}
