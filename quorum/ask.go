package quorum

import (
	"tabularium/api"
	"tabularium/journal"
)

// fate is what becomes of a request.
type fate int

const (
	handled fate = iota // and answered
	lost
	unheard   // it is handled, and the answer is lost
	twice     // it is handled twice, and the first answer comes
	late      // it is sent, and nothing is answered now
	fateCount // how many fates there are
)

// fateOf: the fate that c tells.
func fateOf(c int) fate {
	if c < 0 {
		c = -(c + 1)
	}
	return fate(c) % fateCount
}

// answers: does an answer come?
func (f fate) answers() bool {
	return f == handled || f == twice
}

// each hands each node's place to do, one behind the other, and the fate of what it is asked.
func (q *Quorum) each(fates []int, do func(at int, f fate)) {
	for at := range q.nodes {
		f := handled
		if at < len(fates) {
			f = fateOf(fates[at])
		}
		do(at, f)
	}
}

// heard is what the nodes answered, as far as it came: the logs of all that answered OK, and whether one told that the epoch has passed.
type heard struct {
	logs   []api.Log
	fenced bool
}

// ask: what comes when each node is asked the request.
func (q *Quorum) ask(request string, fates []int) heard {
	var h heard
	q.each(fates, func(at int, f fate) {
		if answer := q.deliver(at, f, request); f.answers() {
			h.take(answer)
		}
	})
	return h
}

// deliver does with the request what its fate says: the answer counts only if one comes.
func (q *Quorum) deliver(at int, f fate, request string) (answer string) {
	switch f {
	case handled, unheard:
		return q.nodes[at].Handle(request)
	case twice:
		answer = q.nodes[at].Handle(request)
		q.nodes[at].Handle(request)
	case late:
		q.mail.Send(api.Message{To: at, Data: request}) // what the mail refuses is lost, as anything on its way may be
	}
	return answer
}

// take keeps what an answer says.
func (h *heard) take(answer string) {
	l, e := journal.Told(answer)
	switch e {
	case api.OK:
		h.logs = append(h.logs, l)
	case api.ErrFence:
		h.fenced = true
	}
}

// verdict: OK, if a majority answered that; else why not.
func (q *Quorum) verdict(h heard) api.Errno {
	switch {
	case q.enough(len(h.logs)):
		return api.OK
	case h.fenced:
		return api.ErrFence
	}
	return api.ErrLost
}
