package side

import (
	"slices"
	"strconv"
	"sync"
	"testing"
	"testing/synctest"
	"time"

	"levelhand/api"
)

// In a bubble of synctest all time is made up: nothing waits for real. It fails if one that was started in it never ends.

// P1, P121: so many work at the same time, and no more; each number is taken once; none works any more behind the answer.
func TestSoManyWork(t *testing.T) {
	for workers := 1; workers <= api.Workers; workers++ {
		for _, many := range []int{0, 1, 2, 15, 16, 17, 48} {
			synctest.Test(t, func(t *testing.T) {
				var lock sync.Mutex
				now, most, taken := 0, 0, make([]int, many)
				begin := func(i int) {
					lock.Lock()
					defer lock.Unlock()
					taken[i]++
					now++
					most = max(most, now)
				}
				end := func() {
					lock.Lock()
					defer lock.Unlock()
					now--
				}
				got, err := answers(many, workers, func(i int) (string, error) {
					begin(i)
					defer end()
					time.Sleep(time.Second) // ends when all have come to it
					return strconv.Itoa(i), nil
				})
				if err != nil || len(got) != many || now != 0 {
					t.Fatalf("%d by %d: %q, %v, %d at work", many, workers, got, err, now)
				}
				for i, times := range taken {
					if times != 1 || got[i] != strconv.Itoa(i) {
						t.Errorf("%d by %d: number %d: taken %d times, %q", many, workers, i, times, got[i])
					}
				}
				if most != min(many, workers) {
					t.Errorf("%d by %d: %d at a time", many, workers, most)
				}
			})
		}
	}
}

// P120, P121: in whatever order they are through, answers stand in the order of the numbers, and the first error by number is told.
func TestWhateverIsThroughFirst(t *testing.T) {
	const many = 20
	orders := map[string]func(int) int{
		"rising":  func(i int) int { return i },
		"falling": func(i int) int { return many - i },
		"mixed":   func(i int) int { return i * 7 % many },
	}
	for name, order := range orders {
		for workers := 1; workers <= api.Workers; workers++ {
			for _, wrong := range [][]int{nil, {0}, {19}, {3, 4}, {5, 19}, {0, 19}, {8, 9, 10, 11, 12}} {
				synctest.Test(t, func(t *testing.T) {
					got, err := answers(many, workers, func(i int) (int, error) {
						time.Sleep(time.Duration(order(i)) * time.Second)
						if slices.Contains(wrong, i) {
							return i, &api.Fault{At: 100 + i, Err: api.ErrFull}
						}
						return i * i, nil
					})
					if wrong != nil {
						wantFault(t, name, got, err, wrong[0], api.ErrFull)
						return
					}
					var want []int
					for i := range many {
						want = append(want, i*i)
					}
					wantList(t, name, workers, got, err, want)
				})
			}
		}
	}
}

// P1: calls end, and so does all that they started, with an error and without.
func TestNoneIsLeft(t *testing.T) {
	a := []string{"a", "b"}
	for workers := 1; workers <= api.Workers; workers++ {
		synctest.Test(t, func(t *testing.T) {
			for _, l := range [][][]string{nil, lists("a"), lists("a", "B", "c"), manyLists(100), make([][]string, 100), manyLists(101)} {
				Moves(a, l, 31, workers)
			}
			for _, n := range []int{0, 1, 10} {
				Buckets(nil, n, workers)
				Buckets(manyKeys(1), n, workers)
				Buckets(manyKeys(500), n, workers)
				Buckets(manyKeys(501), n, workers)
			}
		})
	}
}
