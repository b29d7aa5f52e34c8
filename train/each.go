package train

import "sync"

// numbered is something that was made of an element of a list, with the number of that.
type numbered[T any] struct {
	number int
	what   T
}

// each returns what is made of each element of a list; of all of them at once.
func each[A, B any](l []A, do func(A) B) []B {
	made := make(chan numbered[B], len(l))
	var working sync.WaitGroup
	for i, x := range l {
		working.Add(1)
		go func() {
			defer working.Done()
			made <- numbered[B]{i, do(x)}
		}()
	}
	working.Wait()
	close(made)
	out := make([]B, len(l))
	for x := range made {
		out[x.number] = x.what
	}
	return out
}
