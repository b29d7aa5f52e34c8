package docs

// stack keeps what is open: the last one opened is the first one to be closed.
type stack[T any] []T

func (s *stack[T]) push(x T) { *s = append(*s, x) }

// pop takes the top off; false if there is none.
func (s *stack[T]) pop() (T, bool) {
	top, ok := s.top()
	if ok {
		*s = (*s)[:len(*s)-1]
	}
	return top, ok
}

func (s *stack[T]) top() (T, bool) {
	var none T
	if len(*s) == 0 {
		return none, false
	}
	return (*s)[len(*s)-1], true
}
