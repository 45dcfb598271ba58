// Package queue has things that are found, each once, in the order in which they were.
package queue

// Queue of all things that were found so far.
type Queue[T comparable] struct {
	found []T
	known map[T]struct{}
}

// New queue with the things that are found first.
func New[T comparable](first ...T) *Queue[T] {
	q := &Queue[T]{known: make(map[T]struct{})}
	for _, thing := range first {
		q.Add(thing)
	}
	return q
}

// Add a thing, if it was not found yet.
func (q *Queue[T]) Add(thing T) {
	if _, ok := q.known[thing]; ok {
		return
	}
	q.known[thing] = struct{}{}
	q.found = append(q.found, thing)
}

// All things, the first one found first; also those that are found while they are gone over.
func (q *Queue[T]) All() func(yield func(T) bool) {
	return func(yield func(T) bool) {
		for i := 0; i < len(q.found); i++ {
			if !yield(q.found[i]) {
				return
			}
		}
	}
}

// Len tells how many things were found.
func (q *Queue[T]) Len() int { return len(q.found) }
