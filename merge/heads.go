package merge

import (
	"cmp"
	"container/heap"
	"iter"

	"cornucopia/api"
	"cornucopia/ikey"
)

// head is what is left of a list: one version at least, and the first one waits.
type head struct {
	left []api.Entry
	list int // the number of the list
}

// heads is a heap: the first one of all versions that wait is at its top.
type heads []head

func (h heads) Len() int { return len(h) }

// Less holds lists against each other too: of the same version of two the one of the first list is told.
func (h heads) Less(i, j int) bool {
	return cmp.Or(ikey.Compare(h[i].left[0], h[j].left[0]), cmp.Compare(h[i].list, h[j].list)) < 0
}

func (h heads) Swap(i, j int) { h[i], h[j] = h[j], h[i] }

func (h *heads) Push(x any) { *h = append(*h, x.(head)) }

func (h *heads) Pop() any {
	end := len(*h) - 1
	last := (*h)[end]
	*h = (*h)[:end]
	return last
}

// waiting makes a heap of lists.
func waiting(lists [][]api.Entry) *heads {
	h := &heads{}
	for i, l := range lists {
		if len(l) > 0 {
			heap.Push(h, head{left: l, list: i})
		}
	}
	return h
}

// take takes the version at the top; the next one of its list waits then.
func (h *heads) take() api.Entry {
	top := &(*h)[0]
	e := top.left[0]
	if len(top.left) == 1 {
		heap.Pop(h)
		return e
	}
	top.left = top.left[1:]
	heap.Fix(h, 0)
	return e
}

// mark is what tells a version from all others.
type mark struct {
	key string
	seq uint64
}

// inOrder goes through the versions of lists, each mark once. They are still those that were handed in, not copies.
func inOrder(lists [][]api.Entry) iter.Seq[api.Entry] {
	return func(yield func(api.Entry) bool) {
		told := map[mark]struct{}{}
		for h := waiting(lists); h.Len() > 0; {
			e := h.take()
			m := mark{key: e.Key, seq: e.Seq}
			if _, is := told[m]; is {
				continue
			}
			told[m] = struct{}{}
			if !yield(e) {
				return
			}
		}
	}
}
