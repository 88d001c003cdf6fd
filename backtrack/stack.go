package backtrack

// A stack is things of any type, of which the last one is taken first.
type stack[T any] []T

// push lays one on top.
func (s *stack[T]) push(x T) {
	*s = append(*s, x)
}

// top is the last one; there must be one.
func (s stack[T]) top() T {
	return s[len(s)-1]
}

// pop takes the last one off; there must be one.
func (s *stack[T]) pop() T {
	x := s.top()
	*s = (*s)[:len(*s)-1]
	return x
}
