package count

// least returns the least of some numbers.
func least(first int, others ...int) int {
	l := first
	for _, n := range others {
		l = min(l, n)
	}
	return l
}

// measure is the number by which things are held against each other.
type measure[T any] struct{ of func(T) int }

// leastOf returns those of the list whose number is least, in their order.
func leastOf[T any](list []T, m measure[T]) []T {
	var kept []T
	bound := 0
	for _, t := range list {
		n := m.of(t)
		if len(kept) == 0 || n < bound {
			kept, bound = nil, n
		}
		if n == bound {
			kept = append(kept, t)
		}
	}
	return kept
}
