package mail

import (
	"math"
	"math/rand"
	"strings"
	"testing"

	"tabularium/api"
)

// letter is a message that a model was ever sent.
type letter struct {
	x    api.Message
	born int // how many calls of Age there were ahead of it
	gone bool
}

// model is mail told otherwise: all that was ever sent, with the hour of its birth; nothing is taken out of it.
type model struct {
	letters []letter
	calls   int
}

// there: where those that are on their way stand in letters.
func (m *model) there() []int {
	var l []int
	for i, x := range m.letters {
		if !x.gone {
			l = append(l, i)
		}
	}
	return l
}

func (m *model) has(i int) bool {
	return 0 <= i && i < len(m.there())
}

func (m *model) add(x api.Message) api.Errno {
	if len(m.there()) == 50 || len(x.Data) > api.MaxText {
		return api.ErrLong
	}
	m.letters = append(m.letters, letter{x: x, born: m.calls})
	return api.OK
}

func (m *model) take(i int) (api.Message, bool) {
	if !m.has(i) {
		return api.Message{}, false
	}
	x := &m.letters[m.there()[i]]
	x.gone = true
	return x.x, true
}

func (m *model) twin(i int) api.Errno {
	if !m.has(i) {
		return api.ErrNone
	}
	return m.add(m.letters[m.there()[i]].x)
}

func (m *model) age(ticks int) int {
	n := 0
	for _, i := range m.there() {
		if ticks < 1 || m.calls-m.letters[i].born >= ticks {
			m.letters[i].gone = true
			n++
		}
	}
	m.calls++
	return n
}

func (m *model) all() []api.Message {
	var l []api.Message
	for _, i := range m.there() {
		l = append(l, m.letters[i].x)
	}
	return l
}

// place turns a byte into a place: mostly one at which something may stand, seldom one far off.
func place(x byte) int {
	switch {
	case x < 200:
		return int(x%54) - 2
	case x < 228:
		return math.MinInt + int(x%2)
	default:
		return math.MaxInt - int(x%2)
	}
}

// ticks turns a byte into a number of ticks: mostly a small one.
func ticks(x byte) int {
	switch {
	case x < 220:
		return int(x%12) + 1
	case x < 240:
		return int(x%3) - 2
	default:
		return math.MaxInt
	}
}

// data turns a byte into a message's bytes: mostly a few, seldom about MaxText.
func data(x byte) string {
	if x < 230 {
		return strings.Repeat(string(rune('a'+x%26)), int(x)/26)
	}
	return strings.Repeat("z", api.MaxText-12+int(x-230))
}

// follow does one deed a pair of bytes, with mail and with a model, and holds what they answer against each other.
func follow(t *testing.T, deeds []byte) {
	m, o := New(), &model{}
	for i := 0; i+1 < len(deeds); i += 2 {
		what, x := deeds[i], deeds[i+1]
		switch what % 16 {
		case 0, 1:
			n := o.age(ticks(x))
			wantAge(t, m, ticks(x), n)
		case 2, 3, 4:
			y, ok := o.take(place(x))
			if got, has := m.Take(place(x)); got != y || has != ok {
				t.Errorf("Take(%d) = %.100v, %v, not %.100v, %v", place(x), got, has, y, ok)
			}
		case 5, 6, 7:
			want(t, "Twin", m.Twin(place(x)), o.twin(place(x)))
		default:
			y := api.Message{To: int(x) - 100, Data: data(x)}
			want(t, "Send", m.Send(y), o.add(y))
		}
		wantAll(t, m, o.all()...)
		if t.Failed() {
			t.Fatalf("behind deed %d of %v", i/2, deeds[:i+2])
		}
	}
}

// P5.1, P5.2: mail answers what the model does, deed by deed.
func TestAgainstModel(t *testing.T) {
	r := rand.New(rand.NewSource(5))
	for range 300 {
		deeds := make([]byte, 2*(1+r.Intn(150)))
		r.Read(deeds)
		follow(t, deeds)
	}
}

// P5.1, P5.2: the same, from 50 messages on.
func TestAgainstModelFull(t *testing.T) {
	r := rand.New(rand.NewSource(6))
	for range 100 {
		var deeds []byte
		for range 60 {
			deeds = append(deeds, 8, byte(r.Intn(230)))
		}
		more := make([]byte, 60)
		r.Read(more)
		follow(t, append(deeds, more...))
	}
}

func FuzzMail(f *testing.F) {
	f.Add([]byte{8, 1, 8, 2, 5, 2, 2, 3})
	f.Add([]byte{8, 1, 0, 1, 8, 2, 0, 1, 0, 1})
	f.Fuzz(func(t *testing.T, deeds []byte) {
		follow(t, deeds[:min(len(deeds), 600)])
	})
}
