package listing

import (
	"cmp"
	"container/heap"
	"iter"
	"slices"
)

// Merge goes through all that the streams have, if each of them rises: each element once, rising, and how often they have it. (P22.1)
func Merge[T cmp.Ordered](streams ...iter.Seq[T]) iter.Seq2[T, int] {
	streams = slices.Clone(streams) // whoever has handed in a list may turn it ahead of a walk
	return func(yield func(T, int) bool) {
		var last T
		count := 0
		for x := range together(streams) {
			// Only behind its last element it is known how often something is there.
			if count > 0 && cmp.Compare(last, x) != 0 {
				if !yield(last, count) {
					return
				}
				count = 0
			}
			last = x
			count++
		}
		if count > 0 {
			yield(last, count)
		}
	}
}

// together goes through the elements of all streams, rising, each as often as it is there. Of each stream it has asked one element more than it has given, and no further one.
func together[T cmp.Ordered](streams []iter.Seq[T]) iter.Seq[T] {
	return func(yield func(T) bool) {
		var open heads[T]
		for _, stream := range streams {
			if stream == nil {
				continue
			}
			next, stop := iter.Pull(stream)
			defer stop() // however the walk ends, it leaves no stream open
			if first, is := next(); is {
				heap.Push(&open, head[T]{first, next})
			}
		}
		for len(open) > 0 && yield(open[0].element) {
			open.step()
		}
	}
}

// head is the first element of a stream that was not given yet, and the call that asks for the one behind it.
type head[T cmp.Ordered] struct {
	element T
	next    func() (T, bool)
}

// heads is a heap: the least element comes first.
type heads[T cmp.Ordered] []head[T]

func (h heads[T]) Len() int           { return len(h) }
func (h heads[T]) Less(i, j int) bool { return cmp.Less(h[i].element, h[j].element) }
func (h heads[T]) Swap(i, j int)      { h[i], h[j] = h[j], h[i] }
func (h *heads[T]) Push(x any)        { *h = append(*h, x.(head[T])) }

func (h *heads[T]) Pop() any {
	end := len(*h) - 1
	last := (*h)[end]
	*h = (*h)[:end]
	return last
}

// step goes on in the stream whose head is the least one.
func (h *heads[T]) step() {
	least := &(*h)[0]
	if x, is := least.next(); is {
		least.element = x
		heap.Fix(h, 0)
	} else {
		heap.Pop(h)
	}
}
