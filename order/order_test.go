package order_test

import (
	"cmp"
	"math"
	"slices"
	"testing"

	"stockpot/order"
)

// edges are keys and ranks at which a difference, or a sign, is easily told wrong, rising.
var edges = []int{math.MinInt, math.MinInt + 1, -1 << 62, -1<<62 + 1, -1 << 32, -1<<31 - 1, -1 << 31, -2, -1, 0, 1, 2, 1<<31 - 1, 1 << 31, 1 << 32, 1<<62 - 1, 1 << 62, math.MaxInt - 1, math.MaxInt}

// pushed is a queue with those entries (key, rank), pushed in that order.
func pushed(t *testing.T, all ...[2]int) *order.Queue {
	t.Helper()
	q := order.New()
	if q == nil {
		t.Fatal("New() = nil")
	}
	for _, e := range all {
		push(t, q, e[0], e[1])
	}
	return q
}

// push expects that there was no entry with that key.
func push(t *testing.T, q *order.Queue, key, rank int) {
	t.Helper()
	if !q.Push(key, rank) {
		t.Fatalf("Push(%d, %d): false", key, rank)
	}
}

// noPush expects that the entry is not taken.
func noPush(t *testing.T, q *order.Queue, key, rank int) {
	t.Helper()
	if q.Push(key, rank) {
		t.Errorf("Push(%d, %d): true", key, rank)
	}
}

// drop expects that there was an entry with that key.
func drop(t *testing.T, q *order.Queue, key int) {
	t.Helper()
	if !q.Drop(key) {
		t.Fatalf("Drop(%d): false", key)
	}
}

// noDrop expects that there is no entry with any of those keys.
func noDrop(t *testing.T, q *order.Queue, keys ...int) {
	t.Helper()
	for _, key := range keys {
		if q.Drop(key) {
			t.Errorf("Drop(%d): true", key)
		}
	}
}

// pop expects that this entry comes first.
func pop(t *testing.T, q *order.Queue, want [2]int) {
	t.Helper()
	if key, rank, ok := q.Pop(); !ok || [2]int{key, rank} != want {
		t.Fatalf("Pop() = %d, %d, %t, want %d", key, rank, ok, want)
	}
}

// noPop expects that none comes.
func noPop(t *testing.T, q *order.Queue) {
	t.Helper()
	if key, rank, ok := q.Pop(); ok || key != 0 || rank != 0 {
		t.Errorf("Pop() = %d, %d, %t, want none", key, rank, ok)
	}
}

// holds expects that the queue has just those entries, as they come.
func holds(t *testing.T, q *order.Queue, want ...[2]int) {
	t.Helper()
	if q.Len() != len(want) {
		t.Fatalf("Len() = %d, want %d", q.Len(), len(want))
	}
	if l := q.List(); !slices.Equal(l, want) {
		t.Fatalf("List() = %d, want %d", l, want)
	}
}

// ends expects just those entries, and pops them one by one.
func ends(t *testing.T, q *order.Queue, want ...[2]int) {
	t.Helper()
	for i, e := range want {
		holds(t, q, want[i:]...)
		pop(t, q, e)
	}
	holds(t, q)
	noPop(t, q)
}

// inOrder is those entries as they come, told most plainly.
func inOrder(all [][2]int) [][2]int {
	l := slices.Clone(all)
	slices.SortFunc(l, func(e, f [2]int) int {
		return cmp.Or(cmp.Compare(e[1], f[1]), cmp.Compare(e[0], f[0]))
	})
	return l
}

// orders calls f with each order of those entries.
func orders(all [][2]int, f func(l [][2]int)) {
	var from func(i int)
	from = func(i int) {
		if i == len(all) {
			f(slices.Clone(all))
			return
		}
		for j := i; j < len(all); j++ {
			all[i], all[j] = all[j], all[i]
			from(i + 1)
			all[i], all[j] = all[j], all[i]
		}
	}
	from(0)
}

// P5.1

func TestNewHasNone(t *testing.T) {
	q := pushed(t)
	for range 2 {
		holds(t, q)
		noPop(t, q)
		noDrop(t, q, edges...)
		noDrop(t, q, 3, 7)
	}
	push(t, q, 3, 5)
	ends(t, q, [2]int{3, 5})
}

func TestOneEntry(t *testing.T) {
	for _, key := range edges {
		for _, rank := range edges {
			q := pushed(t, [2]int{key, rank})
			holds(t, q, [2]int{key, rank})
			noDrop(t, q, key^1)
			ends(t, q, [2]int{key, rank})
			noDrop(t, q, key)
			push(t, q, key, rank)
			drop(t, q, key)
			ends(t, q)
			noDrop(t, q, key)
		}
	}
}

func TestTheLesserRankComesFirst(t *testing.T) {
	ends(t, pushed(t, [2]int{1, 7}, [2]int{2, 6}), [2]int{2, 6}, [2]int{1, 7})
	ends(t, pushed(t, [2]int{2, 6}, [2]int{1, 7}), [2]int{2, 6}, [2]int{1, 7})
	ends(t, pushed(t, [2]int{9, -1}, [2]int{-9, 0}), [2]int{9, -1}, [2]int{-9, 0})
}

func TestOfOneRankTheLesserKeyComesFirst(t *testing.T) {
	ends(t, pushed(t, [2]int{3, 5}, [2]int{1, 5}), [2]int{1, 5}, [2]int{3, 5})
	ends(t, pushed(t, [2]int{1, 5}, [2]int{3, 5}), [2]int{1, 5}, [2]int{3, 5})
	ends(t, pushed(t, [2]int{0, 0}, [2]int{2, 0}, [2]int{-2, 0}, [2]int{1, 0}, [2]int{-1, 0}),
		[2]int{-2, 0}, [2]int{-1, 0}, [2]int{0, 0}, [2]int{1, 0}, [2]int{2, 0})
}

func TestNegativeAndGreatestNumbers(t *testing.T) {
	for i, less := range edges {
		for _, more := range edges[i+1:] {
			byRank := [][2]int{{more, less}, {less, more}}
			ends(t, pushed(t, byRank...), byRank...)
			ends(t, pushed(t, byRank[1], byRank[0]), byRank...)
			for _, rank := range edges {
				byKey := [][2]int{{less, rank}, {more, rank}}
				ends(t, pushed(t, byKey...), byKey...)
				ends(t, pushed(t, byKey[1], byKey[0]), byKey...)
			}
		}
	}
	var all [][2]int
	for i, key := range edges {
		all = append(all, [2]int{key, edges[i*7%len(edges)]})
	}
	ends(t, pushed(t, all...), inOrder(all)...)
}

func TestEachOrderOfPushes(t *testing.T) {
	all := [][2]int{{4, 1}, {2, 1}, {-3, 0}, {5, -2}, {0, 1}, {1, 3}, {9, -2}}
	want := [][2]int{{5, -2}, {9, -2}, {-3, 0}, {0, 1}, {2, 1}, {4, 1}, {1, 3}}
	orders(all, func(l [][2]int) {
		q := pushed(t, l...)
		holds(t, q, want...)
		for _, e := range want {
			pop(t, q, e)
		}
		holds(t, q)
	})
}

func TestEachDropOfEachOrderOfPushes(t *testing.T) {
	all := [][2]int{{4, 1}, {2, 1}, {-3, 0}, {5, -2}, {0, 1}, {1, 3}}
	want := inOrder(all)
	orders(all, func(l [][2]int) {
		for i, gone := range want {
			q := pushed(t, l...)
			drop(t, q, gone[0])
			noDrop(t, q, gone[0])
			ends(t, q, slices.Delete(slices.Clone(want), i, i+1)...)
		}
	})
}

func TestDropFromWithinAGreatHeap(t *testing.T) {
	// Pushed in this order the entries stand as a heap whose one half has lesser ranks than the other: what takes the place of one that is dropped may have to come ahead of those above it.
	var all [][2]int
	for i, rank := range []int{0, 100, 1, 101, 102, 2, 3, 103, 104, 105, 106, 4, 5, 6, 7} {
		all = append(all, [2]int{i, rank})
	}
	want := inOrder(all)
	for i, gone := range want {
		q := pushed(t, all...)
		drop(t, q, gone[0])
		ends(t, q, slices.Delete(slices.Clone(want), i, i+1)...)
	}
	for i, first := range all {
		for _, second := range all[i+1:] {
			q := pushed(t, all...)
			drop(t, q, second[0])
			drop(t, q, first[0])
			ends(t, q, slices.DeleteFunc(slices.Clone(want), func(e [2]int) bool { return e == first || e == second })...)
		}
	}
}

func TestDropOfAKeyThatThereIsNot(t *testing.T) {
	q := pushed(t, [2]int{3, 8}, [2]int{1, 9}, [2]int{-4, 10})
	// 8, 9 and 10 are ranks, 0 and 2 places in a row of three.
	noDrop(t, q, 0, 2, 4, -3, -1, 8, 9, 10, math.MinInt, math.MaxInt)
	holds(t, q, [2]int{3, 8}, [2]int{1, 9}, [2]int{-4, 10})
	pop(t, q, [2]int{3, 8})
	noDrop(t, q, 3)
	ends(t, q, [2]int{1, 9}, [2]int{-4, 10})
}

func TestManyInAnyOrder(t *testing.T) {
	const n = 2003
	for _, stride := range []int{1, 2, 37, 1000, n - 1} {
		var all [][2]int
		for i := range n {
			all = append(all, [2]int{i*stride%n - n/2, i * i % 91})
		}
		q := pushed(t, all...)
		want := inOrder(all)
		holds(t, q, want...)
		left := want[:0:0]
		for _, e := range want {
			if e[0]%3 == 0 {
				drop(t, q, e[0])
			} else {
				left = append(left, e)
			}
		}
		holds(t, q, left...)
		for _, e := range left {
			pop(t, q, e)
		}
		noPop(t, q)
	}
}

func TestVeryManyEnd(t *testing.T) {
	const n, stride = 300_000, 7919
	q := pushed(t)
	for i := range n {
		push(t, q, i*stride%n, -i)
	}
	if q.Len() != n || len(q.List()) != n {
		t.Fatalf("Len() = %d, want %d", q.Len(), n)
	}
	for i := range n / 2 {
		drop(t, q, i*stride%n)
	}
	for i := n - 1; i >= n/2; i-- {
		pop(t, q, [2]int{i * stride % n, -i})
	}
	noPop(t, q)
}

func TestPushAmidPops(t *testing.T) {
	q := pushed(t, [2]int{1, 10}, [2]int{2, 20})
	pop(t, q, [2]int{1, 10})
	push(t, q, 3, 5)
	push(t, q, 1, 30)
	pop(t, q, [2]int{3, 5})
	push(t, q, 4, 20)
	push(t, q, 0, 20)
	ends(t, q, [2]int{0, 20}, [2]int{2, 20}, [2]int{4, 20}, [2]int{1, 30})
}

func TestListLeavesTheQueueAsItWas(t *testing.T) {
	all := [][2]int{{4, 1}, {2, 1}, {-3, 0}, {5, -2}, {0, 1}, {1, 3}}
	want := inOrder(all)
	orders(all, func(l [][2]int) {
		q := pushed(t, l...)
		told := q.List()
		again := q.List()
		for i := range told {
			told[i] = [2]int{77, math.MinInt}
		}
		for len(told) < cap(told) {
			told = append(told, [2]int{77, math.MinInt})
		}
		if !slices.Equal(again, want) {
			t.Fatalf("a list is %d, and was %d", again, want)
		}
		noDrop(t, q, 77)
		ends(t, q, want...)
	})
}

func TestListKeepsWhatItTold(t *testing.T) {
	q := pushed(t, [2]int{3, 5}, [2]int{1, 5}, [2]int{2, 4})
	told := q.List()
	drop(t, q, 1)
	push(t, q, 9, 0)
	pop(t, q, [2]int{9, 0})
	push(t, q, 1, 1)
	if want := [][2]int{{2, 4}, {1, 5}, {3, 5}}; !slices.Equal(told, want) {
		t.Errorf("the list is %d, and was %d", told, want)
	}
	ends(t, q, [2]int{1, 1}, [2]int{2, 4}, [2]int{3, 5})
}

func TestQueuesAreApart(t *testing.T) {
	p, q := pushed(t, [2]int{1, 1}, [2]int{2, 2}), pushed(t, [2]int{1, 9}, [2]int{3, 0})
	drop(t, p, 1)
	noDrop(t, p, 3)
	push(t, q, 2, 4)
	holds(t, p, [2]int{2, 2})
	ends(t, q, [2]int{3, 0}, [2]int{2, 4}, [2]int{1, 9})
	ends(t, p, [2]int{2, 2})
}

func TestNilQueue(t *testing.T) {
	var q *order.Queue
	for range 2 {
		for _, n := range edges {
			noPush(t, q, n, n)
		}
		noPop(t, q)
		noDrop(t, q, edges...)
		holds(t, q)
	}
}

// P5.2

func TestAKeyIsThereOnce(t *testing.T) {
	for _, key := range edges {
		q := pushed(t, [2]int{key, 5})
		for _, rank := range append([]int{5, 4, 6}, edges...) {
			noPush(t, q, key, rank)
			holds(t, q, [2]int{key, 5})
		}
		drop(t, q, key)
		noDrop(t, q, key)
		holds(t, q)
	}
	want := [][2]int{{6, -1}, {3, 5}, {4, 5}, {1, 9}}
	q := pushed(t, [2]int{1, 9}, [2]int{3, 5}, [2]int{6, -1}, [2]int{4, 5})
	for _, e := range want {
		for _, rank := range []int{-2, -1, 0, 5, 6, 9, 10} {
			noPush(t, q, e[0], rank)
			holds(t, q, want...)
		}
	}
	ends(t, q, want...)
}

func TestAKeyThatIsGoneMayComeAgain(t *testing.T) {
	for _, rank := range edges {
		all := [][2]int{{1, 5}, {2, 5}, {3, -5}, {4, 0}}
		for i, gone := range all {
			left := slices.Delete(slices.Clone(all), i, i+1)
			want := inOrder(append(left, [2]int{gone[0], rank}))
			q := pushed(t, all...)
			drop(t, q, gone[0])
			push(t, q, gone[0], rank)
			noPush(t, q, gone[0], gone[1])
			ends(t, q, want...)
		}
		q := pushed(t, all...)
		pop(t, q, [2]int{3, -5})
		push(t, q, 3, rank)
		noPush(t, q, 3, -5)
		ends(t, q, inOrder([][2]int{{1, 5}, {2, 5}, {3, rank}, {4, 0}})...)
	}
}

// model is what a queue must come to, told most plainly: its entries, as they come.
type model [][2]int

func (m *model) at(key int) int {
	return slices.IndexFunc(*m, func(e [2]int) bool { return e[0] == key })
}

func (m *model) push(key, rank int) bool {
	if m.at(key) >= 0 {
		return false
	}
	*m = inOrder(append(*m, [2]int{key, rank}))
	return true
}

func (m *model) drop(key int) bool {
	i := m.at(key)
	if i >= 0 {
		*m = slices.Delete(*m, i, i+1)
	}
	return i >= 0
}

func (m *model) pop() (key, rank int, ok bool) {
	if len(*m) == 0 {
		return 0, 0, false
	}
	first := (*m)[0]
	*m = slices.Delete(*m, 0, 1)
	return first[0], first[1], true
}

// modelKeys and modelRanks are what the calls of a row below are made of.
const modelKeys, modelRanks = 4, 3

// modelCalls is how many calls there are: each Push, each Drop, and Pop.
const modelCalls = modelKeys*modelRanks + modelKeys + 1

// same does that call on both, and expects one answer of them.
func same(t *testing.T, q *order.Queue, m *model, call int) {
	t.Helper()
	key := call % modelKeys
	switch rank := call / modelKeys; {
	case rank < modelRanks:
		if got, want := q.Push(key, rank), m.push(key, rank); got != want {
			t.Fatalf("Push(%d, %d) = %t, want %t", key, rank, got, want)
		}
	case rank == modelRanks:
		if got, want := q.Drop(key), m.drop(key); got != want {
			t.Fatalf("Drop(%d) = %t, want %t", key, got, want)
		}
	default:
		key, rank, ok := q.Pop()
		if k, r, o := m.pop(); key != k || rank != r || ok != o {
			t.Fatalf("Pop() = %d, %d, %t, want %d, %d, %t", key, rank, ok, k, r, o)
		}
	}
	holds(t, q, *m...)
}

func TestEachRowOfFourCalls(t *testing.T) {
	for row := range modelCalls * modelCalls * modelCalls * modelCalls {
		q, m := order.New(), &model{}
		for range 4 {
			same(t, q, m, row%modelCalls)
			row /= modelCalls
		}
		for range modelKeys {
			same(t, q, m, modelCalls-1)
		}
	}
}

func TestALongRowOfCalls(t *testing.T) {
	const keys, calls = 61, 60_000
	q, m := order.New(), &model{}
	// A plain rule that comes to calls in no order that is easily seen; the higher bits are those that vary.
	state := uint64(1)
	next := func(n int) int {
		state = state*6364136223846793005 + 1442695040888963407
		return int(state>>33) % n
	}
	for range calls {
		key, rank := next(keys)-keys/2, next(9)-4
		var got, want bool
		switch next(8) {
		case 0:
			k, r, ok := q.Pop()
			wk, wr, wok := m.pop()
			got, want = ok && k == wk && r == wr, wok
		case 1, 2, 3:
			got, want = q.Drop(key), m.drop(key)
		default:
			got, want = q.Push(key, rank), m.push(key, rank)
		}
		if got != want {
			t.Fatalf("%t, want %t, with %d", got, want, *m)
		}
		holds(t, q, *m...)
	}
}
