package journal

import (
	"slices"
	"strings"

	"tabularium/api"
	"tabularium/disk"
	"tabularium/log"
	"tabularium/wire"
)

const lastError = api.ErrState

// told is what an answer says.
type told struct {
	log api.Log
	err api.Errno
}

// Told: the log that an answer has, or its error.
func Told(answer string) (api.Log, api.Errno) {
	a, e := taken(answer, takeAnswer)
	if e != api.OK {
		return api.Log{}, e
	}
	return a.log, a.err
}

// answered: the answer of that error, with these pieces of a log.
func answered(e api.Errno, pieces ...string) string {
	return joined(append([]string{wire.Num(int(e))}, pieces...)...)
}

// pieces: the bytes of a log, cut into what an answer's texts have room for.
func pieces(l api.Log) []string {
	left, _ := log.Bytes(l) // never refused: no node has a log that is not right
	var out []string
	for left != "" {
		n := min(len(left), api.MaxText)
		out = append(out, left[:n])
		left = left[n:]
	}
	return out
}

func takeAnswer(texts []string) told {
	need(len(texts) >= 1)
	e := api.Errno(takeNumber(texts[0]))
	need(e >= api.OK && e <= lastError)
	behind := texts[1:]
	if len(behind) == 0 {
		return told{err: e}
	}
	need(e == api.OK)
	l := takeLog(strings.Join(behind, ""))
	// A log has one answer: the same bytes in other pieces are none, nor are they with something behind them.
	need(slices.Equal(pieces(l), behind))
	return told{log: l}
}

// takeLog: the log that b begins with. Layer 14 alone knows how, and reads it from a disk: here from one that nobody else has.
func takeLog(b string) api.Log {
	d := disk.New(api.MaxFile)
	need(d.Append(logFile, b) == api.OK)
	l, _, e := log.Load(d, logFile)
	need(e == api.OK)
	return l
}
