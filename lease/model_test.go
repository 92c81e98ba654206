package lease

import (
	"math/rand/v2"
	"slices"
	"testing"

	"tabularium/api"
)

// model knows of each client until when it writes, by its place, and no list: -1 where there is none.
type model [4]int

func (m model) leases() []api.Lease {
	var l []api.Lease
	for client, until := range m {
		if until >= 0 {
			l = append(l, of(client, until))
		}
	}
	return l
}

func (m model) late(now int) []int {
	var clients []int
	for client, until := range m {
		if until >= 0 && until < now {
			clients = append(clients, client)
		}
	}
	return clients
}

// hold asks every call of l, which is the model's, at one client and now.
func (m model) hold(t *testing.T, l []api.Lease, client, now int) {
	t.Helper()
	if !slices.Equal(l, m.leases()) || !Right(l) {
		t.Fatalf("%v, not %v", l, m.leases())
	}
	wantLate(t, l, now, m.late(now)...)
	if client < 0 || client > 3 {
		wantNoUntil(t, l, client)
		wantNoRenew(t, l, client, now)
		wantDrop(t, l, client, l...)
		return
	}
	if m[client] < 0 {
		wantNoUntil(t, l, client)
	} else {
		wantUntil(t, l, client, m[client])
	}
	if now < 0 || now > latest {
		wantNoRenew(t, l, client, now)
	} else {
		renewed := m
		renewed[client] = max(m[client], now+10)
		wantRenew(t, l, client, now, renewed.leases()...)
	}
	dropped := m
	dropped[client] = -1
	wantDrop(t, l, client, dropped.leases()...)
}

// P9.1: all choices of clients with leases around some times, at all clients and at times around these.
func TestAgainstModel(t *testing.T) {
	untils := []int{-1, 0, 14, 15, 16, greatest}
	nows := []int{-1, 0, 4, 5, 6, 14, 15, 16, 17, latest, latest + 1, greatest, greatest + 1}
	for a := range untils {
		for b := range untils {
			for c := range untils {
				for d := range untils {
					m := model{untils[a], untils[b], untils[c], untils[d]}
					for client := -1; client <= 4; client++ {
						for _, now := range nows {
							m.hold(t, m.leases(), client, now)
						}
					}
				}
			}
		}
	}
}

// live does deeds, one for three bytes: somebody renews or drops, and time goes on, and now and then back; when each renewed last is kept, for P9.2.
func live(t *testing.T, deeds []byte) (renewals, drops, late int) {
	t.Helper()
	m := model{-1, -1, -1, -1}
	var l []api.Lease
	now, renewed := 0, model{-1, -1, -1, -1}
	for ; len(deeds) >= 3 && !t.Failed(); deeds = deeds[3:] {
		now = max(0, now+int(deeds[0]%16)-4)
		client := int(deeds[1]%8) - 2
		m.hold(t, l, client, now)
		for who, at := range renewed {
			if at >= 0 && now <= at+10 && slices.Contains(must(Late(l, now)), who) {
				t.Errorf("client %d renewed at %d, and is late at %d", who, at, now)
			}
		}
		late += len(m.late(now))
		if client < 0 || client > 3 {
			continue
		}
		if deeds[2]%4 == 0 {
			l = must(Drop(l, client))
			m[client], renewed[client] = -1, -1
			drops++
		} else {
			l = must(Renew(l, client, now))
			m[client], renewed[client] = max(m[client], now+10), max(renewed[client], now)
			renewals++
		}
	}
	return renewals, drops, late
}

// P9.1, P9.2: leases that are renewed and dropped while time goes by.
func TestLives(t *testing.T) {
	r := rand.New(rand.NewPCG(9, 9))
	var renewals, drops, late int
	for range 200 {
		deeds := make([]byte, 3*r.IntN(200))
		for i := range deeds {
			deeds[i] = byte(r.Uint32())
		}
		renewed, dropped, ranOut := live(t, deeds)
		renewals, drops, late = renewals+renewed, drops+dropped, late+ranOut
		if t.Failed() {
			return
		}
	}
	if renewals < 2000 || drops < 1000 || late < 2000 {
		t.Errorf("too little was tried: %d renewals, %d drops, %d late", renewals, drops, late)
	}
}

func FuzzLease(f *testing.F) {
	f.Add([]byte{4, 2, 1, 5, 3, 1, 15, 2, 0, 9, 5, 2})
	f.Add([]byte{15, 5, 1, 15, 5, 1, 0, 5, 1, 9, 3, 4})
	f.Fuzz(func(t *testing.T, deeds []byte) {
		live(t, deeds[:min(len(deeds), 3000)])
	})
}
