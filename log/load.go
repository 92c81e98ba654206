package log

import (
	"tabularium/api"
	"tabularium/disk"
	"tabularium/sum"
	"tabularium/wire"
)

// Load: the log that stands under name, as far as it can be read; whole, if that is all of the file.
func Load(d *disk.Disk, name string) (l api.Log, whole bool, e api.Errno) {
	left, e := d.Read(name)
	if e != api.OK {
		return api.Log{}, false, e
	}
	if !tried(func() { l.Epoch, left = takeEpoch(left) }) {
		return api.Log{}, false, api.ErrForm
	}
	var x api.Entry
	for len(l.Entries) < api.MaxEdits && tried(func() { x, left = takeEntry(left, len(l.Entries)+1) }) {
		l.Entries = append(l.Entries, x)
	}
	return l, left == "", api.OK
}

// tried: did read come to its end? A part that can't be read leaves it by a panic, so that nothing of that part is stored.
func tried(read func()) (ended bool) {
	defer func() {
		if why := recover(); why != nil {
			ended = false
		}
	}()
	read()
	return true
}

// need leaves what is read by a panic, if ok is not so.
func need(ok bool) {
	if !ok {
		panic(api.ErrForm)
	}
}

// takeEpoch: the epoch at the beginning of b, and what stands behind it.
func takeEpoch(b string) (epoch int, rest string) {
	epoch, behind, rest := takePart(b)
	need(mayBeEpoch(epoch) && behind == "")
	return epoch, rest
}

// takeEntry: the entry of that number at the beginning of b, and what stands behind it.
func takeEntry(b string, txid int) (x api.Entry, rest string) {
	n, data, rest := takePart(b)
	need(n == txid && mayBeData(data))
	return api.Entry{Txid: n, Data: data}, rest
}

// takePart: the number that the sealed part at the beginning of b begins with, what stands behind it in that part, and what stands behind the part.
func takePart(b string) (n int, behind, rest string) {
	part, rest, e := sum.Open(b)
	need(e == api.OK)
	n, behind, e = wire.TakeNum(part)
	need(e == api.OK)
	return n, behind, rest
}
