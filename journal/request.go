package journal

import (
	"tabularium/api"
	"tabularium/log"
	"tabularium/wire"
)

// What a request asks for: its first text.
const (
	askPromise = "p"
	askAccept  = "a"
	askAdd     = "w"
)

const maxData = 600 // bytes of an entry's Data

// asked is what a request asks for: its kind; an epoch; the entries of the log that is to be accepted, or the one that is to be added.
type asked struct {
	kind    string
	epoch   int
	entries []api.Entry
}

// Promise: the request that asks for a promise of the epoch.
func Promise(epoch int) string {
	return joined(askPromise, wire.Num(epoch))
}

// Accept: the request that asks to have a log of that epoch, and these entries.
func Accept(epoch int, l []api.Entry) (string, api.Errno) {
	if !log.Right(api.Log{Epoch: epoch, Entries: l}) {
		return "", api.ErrArg
	}
	texts := []string{askAccept, wire.Num(epoch)}
	for _, x := range l {
		texts = append(texts, x.Data)
	}
	return joined(texts...), api.OK
}

// Add: the request that asks to have x behind what is in the log of that epoch.
func Add(epoch int, x api.Entry) (string, api.Errno) {
	if !mayBeAdded(x) {
		return "", api.ErrArg
	}
	return joined(askAdd, wire.Num(epoch), wire.Num(x.Txid), x.Data), api.OK
}

func mayBeAdded(x api.Entry) bool {
	return x.Txid >= 1 && x.Txid <= api.MaxEdits && len(x.Data) <= maxData
}

func joined(texts ...string) string {
	b, _ := wire.Join(texts) // never refused: no request, and no answer, has as many texts, or such long ones
	return b
}

// taken: what take makes of the texts that are joined in b. A request that is none, and an answer that is none, leaves it by a panic, ahead of any result.
func taken[thing any](b string, take func(texts []string) thing) (x thing, e api.Errno) {
	defer func() {
		if why := recover(); why != nil {
			e = api.ErrForm
		}
	}()
	texts, e := wire.Split(b)
	need(e == api.OK)
	return take(texts), api.OK
}

// need leaves what is taken by a panic, if ok is not so.
func need(ok bool) {
	if !ok {
		panic(api.ErrForm)
	}
}

func takeRequest(texts []string) asked {
	need(len(texts) >= 2)
	r := asked{kind: texts[0], epoch: takeNumber(texts[1])}
	need(r.epoch >= 1 && r.epoch <= api.MaxNumber)
	rest := texts[2:]
	switch r.kind {
	case askPromise:
		need(len(rest) == 0)
	case askAccept:
		r.entries = numbered(rest)
		need(log.Right(api.Log{Epoch: r.epoch, Entries: r.entries}))
	case askAdd:
		need(len(rest) == 2)
		x := api.Entry{Txid: takeNumber(rest[0]), Data: rest[1]}
		need(mayBeAdded(x))
		r.entries = []api.Entry{x}
	default:
		need(false)
	}
	return r
}

// numbered: the entries with these Data, from 1 on.
func numbered(data []string) []api.Entry {
	var l []api.Entry
	for i, s := range data {
		l = append(l, api.Entry{Txid: i + 1, Data: s})
	}
	return l
}

// takeNumber: the number that is all of b.
func takeNumber(b string) int {
	n, rest, e := wire.TakeNum(b)
	need(e == api.OK && rest == "")
	return n
}
