package write

import "container/heap"

// pool is a heap of the registers, or the words of memory, that are free. The least goes out first, so that the same program always gets the same ones.
type pool []int

// newPool has the numbers from first up to the one ahead of end. In their order they are a heap already.
func newPool(first, end int) *pool {
	var p pool
	for number := first; number < end; number++ {
		p = append(p, number)
	}
	return &p
}

// take hands out the least number that is free. There is always one: of registers by the rule of enough, of words because brackets are not that deep.
func (p *pool) take() int { return heap.Pop(p).(int) }

func (p *pool) give(number int) { heap.Push(p, number) }

func (p pool) Len() int { return len(p) }

func (p pool) Less(i, j int) bool { return p[i] < p[j] }

func (p pool) Swap(i, j int) { p[i], p[j] = p[j], p[i] }

// Push is for the package heap alone, as is Pop.
func (p *pool) Push(number any) { *p = append(*p, number.(int)) }

func (p *pool) Pop() any {
	last := len(*p) - 1
	number := (*p)[last]
	*p = (*p)[:last]
	return number
}
