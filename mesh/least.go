package mesh

// least keeps the first of those of which a number is the least.
type least[T any] struct {
	number int
	what   T
	some   bool
}

// see is told of one more, behind all others.
func (l *least[T]) see(what T, number int) {
	if !l.some || number < l.number {
		*l = least[T]{number, what, true}
	}
}
