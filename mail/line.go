package mail

import (
	"slices"
)

// aged is something that waits, and how many calls of pass it has outlasted.
type aged[T any] struct {
	thing T
	age   int
}

// line is things that wait one behind the other.
type line[T any] struct {
	waiting []aged[T]
}

func (l *line[T]) len() int {
	return len(l.waiting)
}

func (l *line[T]) push(x T) {
	l.waiting = append(l.waiting, aged[T]{thing: x})
}

func (l *line[T]) at(i int) (T, bool) {
	if i < 0 || i >= len(l.waiting) {
		var none T
		return none, false
	}
	return l.waiting[i].thing, true
}

// cut takes the i-th out; whoever calls it has asked at whether it is there.
func (l *line[T]) cut(i int) {
	l.waiting = slices.Delete(l.waiting, i, i+1)
}

func (l *line[T]) all() []T {
	out := make([]T, 0, len(l.waiting))
	for _, x := range l.waiting {
		out = append(out, x.thing)
	}
	return out
}

// pass takes out those that have outlasted so many calls of it, and tells how many they are.
func (l *line[T]) pass(ticks int) int {
	was := len(l.waiting)
	l.waiting = slices.DeleteFunc(l.waiting, func(x aged[T]) bool { return x.age >= ticks })
	for i := range l.waiting {
		l.waiting[i].age++ // behind the asking: the call at hand is not ahead of itself
	}
	return was - len(l.waiting)
}
