package mail

import (
	"math"
	"slices"
	"strings"
	"testing"

	"tabularium/api"
)

var (
	a = api.Message{To: 1, Data: "a"}
	b = api.Message{To: 2, Data: "b"}
	c = api.Message{To: 3, Data: "c"}
)

// nowhere: places at which nothing stands, if n messages are on their way.
func nowhere(n int) []int {
	return []int{-1, -2, math.MinInt, n, n + 1, math.MaxInt}
}

func sent(t *testing.T, l ...api.Message) *Mail {
	t.Helper()
	m := New()
	for _, x := range l {
		want(t, "Send", m.Send(x), api.OK)
	}
	return m
}

func numbered(n int) []api.Message {
	var l []api.Message
	for i := range n {
		l = append(l, api.Message{To: i, Data: strings.Repeat("x", i)})
	}
	return l
}

func want(t *testing.T, what string, got, e api.Errno) {
	t.Helper()
	if got != e {
		t.Errorf("%s: error %d, not %d", what, got, e)
	}
}

// wantAll holds Len against l, too: it must tell what All does.
func wantAll(t *testing.T, m *Mail, l ...api.Message) {
	t.Helper()
	if got := m.All(); !slices.Equal(got, l) {
		t.Errorf("All() = %.300v, not %.300v", got, l)
	}
	if m.Len() != len(l) {
		t.Errorf("Len() = %d, not %d", m.Len(), len(l))
	}
}

func wantTake(t *testing.T, m *Mail, i int, x api.Message) {
	t.Helper()
	got, ok := m.Take(i)
	if got != x || !ok {
		t.Errorf("Take(%d) = %.100v, %v, not %.100v", i, got, ok, x)
	}
}

func wantNoTake(t *testing.T, m *Mail, i int) {
	t.Helper()
	x, ok := m.Take(i)
	if x != (api.Message{}) || ok {
		t.Errorf("Take(%d) = %.100v, %v, not nothing", i, x, ok)
	}
}

func wantAge(t *testing.T, m *Mail, ticks, gone int) {
	t.Helper()
	if n := m.Age(ticks); n != gone {
		t.Errorf("Age(%d) = %d, not %d", ticks, n, gone)
	}
}

// P5.1: a new one has none, and answers so at every call.
func TestNew(t *testing.T) {
	m := New()
	wantAll(t, m)
	for _, i := range append(nowhere(0), 49, 50) {
		wantNoTake(t, m, i)
		want(t, "Twin", m.Twin(i), api.ErrNone)
	}
	for _, ticks := range []int{math.MinInt, -1, 0, 1, 2, math.MaxInt} {
		wantAge(t, m, ticks, 0)
	}
	wantAll(t, m)
}

// P5.1: what one has on its way is not on the way in another.
func TestNewIsItsOwn(t *testing.T) {
	m, other := New(), New()
	want(t, "Send", m.Send(a), api.OK)
	wantAll(t, other)
	want(t, "Send", other.Send(b), api.OK)
	wantAge(t, other, 0, 1)
	wantAll(t, m, a)
}

// P5.1: what is sent stands behind all, whoever it is for, and whether it was sent already.
func TestSend(t *testing.T) {
	nothing := api.Message{}
	far := api.Message{To: math.MinInt, Data: "\x00\xff"}
	farther := api.Message{To: math.MaxInt, Data: "ä"}
	m := sent(t, b, a)
	wantAll(t, m, b, a)
	for _, x := range []api.Message{nothing, far, a, farther} {
		want(t, "Send", m.Send(x), api.OK)
	}
	wantAll(t, m, b, a, nothing, far, a, farther)
}

// P5.1: 50 have room, one more has none; with one taken there is room for one.
func TestSendFull(t *testing.T) {
	l := numbered(50)
	m := sent(t, l[:49]...)
	wantAll(t, m, l[:49]...)
	want(t, "the 50th", m.Send(l[49]), api.OK)
	wantAll(t, m, l...)
	want(t, "the 51st", m.Send(a), api.ErrLong)
	want(t, "the 51st of nothing", m.Send(api.Message{}), api.ErrLong)
	wantAll(t, m, l...)
	wantTake(t, m, 0, l[0])
	want(t, "Send", m.Send(a), api.OK)
	want(t, "the 51st", m.Send(b), api.ErrLong)
	wantAll(t, m, append(l[1:], a)...)
}

// P5.1: MaxText bytes may be sent, and not one more; bytes are counted, not letters.
func TestSendLong(t *testing.T) {
	longest := api.Message{To: 1, Data: strings.Repeat("x", api.MaxText)}
	m := sent(t, a)
	want(t, "MaxText", m.Send(longest), api.OK)
	for _, data := range []string{
		strings.Repeat("x", api.MaxText+1),
		strings.Repeat("x", 3*api.MaxText),
		strings.Repeat("ä", api.MaxText/2+1),
	} {
		want(t, "more than MaxText", m.Send(api.Message{To: 1, Data: data}), api.ErrLong)
	}
	wantAll(t, m, a, longest)
	letters := api.Message{Data: strings.Repeat("ä", api.MaxText/2)}
	want(t, "letters of MaxText bytes", m.Send(letters), api.OK)
	wantAll(t, m, a, longest, letters)
}

// P5.1: the first, one between, and the last are taken; those behind stand one place ahead.
func TestTake(t *testing.T) {
	l := numbered(6)
	m := sent(t, l...)
	wantTake(t, m, 0, l[0])
	wantAll(t, m, l[1:]...)
	wantTake(t, m, 4, l[5])
	wantAll(t, m, l[1:5]...)
	wantTake(t, m, 1, l[2])
	wantAll(t, m, l[1], l[3], l[4])
	wantTake(t, m, 1, l[3])
	wantTake(t, m, 1, l[4])
	wantTake(t, m, 0, l[1])
	wantAll(t, m)
	wantNoTake(t, m, 0)
}

// P5.1: a message of nothing is taken, too: the bool tells that it was there.
func TestTakeNothing(t *testing.T) {
	m := sent(t, api.Message{}, a)
	wantTake(t, m, 0, api.Message{})
	wantAll(t, m, a)
}

// P5.1, P6: below 0 and behind the last nothing is taken, and nothing is gone.
func TestTakeNowhere(t *testing.T) {
	for _, n := range []int{0, 1, 2, 49, 50} {
		l := numbered(n)
		m := sent(t, l...)
		for _, i := range nowhere(n) {
			wantNoTake(t, m, i)
		}
		wantAll(t, m, l...)
	}
}

// P5.1: one like the first, like one between, and like the last stands behind all; that one stays.
func TestTwin(t *testing.T) {
	m := sent(t, a, b, c)
	want(t, "Twin(0)", m.Twin(0), api.OK)
	wantAll(t, m, a, b, c, a)
	want(t, "Twin(1)", m.Twin(1), api.OK)
	wantAll(t, m, a, b, c, a, b)
	wantTake(t, m, 3, a)
	wantTake(t, m, 0, a)
	want(t, "Twin(1)", m.Twin(1), api.OK)
	wantAll(t, m, b, c, b, c)
	want(t, "Twin(3)", m.Twin(3), api.OK)
	wantAll(t, m, b, c, b, c, c)
}

// P5.1: a twin of MaxText bytes is made, and a twin has twins.
func TestTwinLong(t *testing.T) {
	x := api.Message{To: -1, Data: strings.Repeat("x", api.MaxText)}
	m := sent(t, x)
	want(t, "Twin(0)", m.Twin(0), api.OK)
	want(t, "Twin(1)", m.Twin(1), api.OK)
	wantAll(t, m, x, x, x)
}

// P5.1, P6: below 0 and behind the last there is none to be a twin of, and none is made; with 50, too, that is what is told.
func TestTwinNowhere(t *testing.T) {
	for _, n := range []int{0, 1, 2, 49, 50} {
		l := numbered(n)
		m := sent(t, l...)
		for _, i := range nowhere(n) {
			want(t, "Twin", m.Twin(i), api.ErrNone)
		}
		wantAll(t, m, l...)
	}
}

// P5.1: the 50th may be a twin; with 50 there is none of any.
func TestTwinFull(t *testing.T) {
	l := numbered(49)
	m := sent(t, l...)
	want(t, "the 50th", m.Twin(48), api.OK)
	l = append(l, l[48])
	wantAll(t, m, l...)
	for _, i := range []int{0, 25, 49} {
		want(t, "the 51st", m.Twin(i), api.ErrLong)
	}
	wantAll(t, m, l...)
	wantTake(t, m, 49, l[49])
	want(t, "Twin", m.Twin(0), api.OK)
	wantAll(t, m, append(l[:49], l[0])...)
}

// P5.1: the chapter's example.
func TestTwinExample(t *testing.T) {
	m := sent(t, a, b)
	want(t, "Twin(0)", m.Twin(0), api.OK)
	wantTake(t, m, 1, b)
	wantAll(t, m, a, a)
}

// P3: what All answered is new memory: later calls leave it, and writing into it, or behind it, leaves what is on its way.
func TestAllIsNew(t *testing.T) {
	m := sent(t, a, b, c)
	l, other := m.All(), m.All()
	wantTake(t, m, 0, a)
	wantAge(t, m, 1, 0)
	want(t, "Twin", m.Twin(1), api.OK)
	wantAge(t, m, 1, 2)
	want(t, "Send", m.Send(a), api.OK)
	if !slices.Equal(l, []api.Message{a, b, c}) {
		t.Errorf("All() became %v", l)
	}
	l = m.All()
	l = l[:cap(l)]
	for i := range l {
		l[i] = b
	}
	wantAll(t, m, c, a)
	if !slices.Equal(other, []api.Message{a, b, c}) {
		t.Errorf("another All() became %v", other)
	}
}

// P3: what was handed in, and what was taken, is as it was, whatever comes behind it.
func TestMessagesStay(t *testing.T) {
	l := []api.Message{a, b, c}
	m := New()
	for _, x := range l {
		want(t, "Send", m.Send(x), api.OK)
	}
	taken, _ := m.Take(0)
	l[1].Data = "other"
	want(t, "Send", m.Send(l[1]), api.OK)
	wantAge(t, m, -1, 3)
	want(t, "Send", m.Send(c), api.OK)
	if taken != a || l[0] != a || l[1] != (api.Message{To: 2, Data: "other"}) || l[2] != c {
		t.Errorf("taken %v, handed in %v", taken, l)
	}
	wantAll(t, m, c)
}
