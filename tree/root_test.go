package tree

import (
	"math"
	"sync"
	"sync/atomic"
	"testing"
	"time"
)

func TestNearest(t *testing.T) {
	for workers, want := range map[int]int{math.MinInt: 1, -1: 1, 0: 1, 1: 1, 2: 2, 5: 5, 7: 7, 8: 8, 9: 8, math.MaxInt: 8} {
		if got := nearest(workers); got != want {
			t.Errorf("%d workers: %d, want %d", workers, got, want)
		}
	}
}

// Each piece waits for as many as there are workers: with fewer at a time it would never end.
func TestSoManyAtATime(t *testing.T) {
	for workers := 1; workers <= 8; workers++ {
		var met sync.WaitGroup
		met.Add(workers)
		share(workers, workers, func(i int) {
			met.Done()
			met.Wait()
		})
	}
}

// Each piece takes its time, so that all who work are seen at work.
func TestNoMoreAtATime(t *testing.T) {
	for workers := 1; workers <= 8; workers++ {
		var now, most atomic.Int64
		share(5*workers+5, workers, func(i int) {
			n := now.Add(1)
			for was := most.Load(); n > was && !most.CompareAndSwap(was, n); was = most.Load() {
			}
			time.Sleep(2 * time.Millisecond)
			now.Add(-1)
		})
		if int(most.Load()) > workers {
			t.Errorf("%d at a time, want %d", most.Load(), workers)
		}
	}
}

func TestEachPieceOnce(t *testing.T) {
	for n := range 50 {
		for workers := 1; workers <= 8; workers++ {
			done := make([]atomic.Int64, n)
			share(n, workers, func(i int) { done[i].Add(1) })
			for i := range done {
				if done[i].Load() != 1 {
					t.Errorf("%d pieces, %d workers: piece %d is done %d times", n, workers, i, done[i].Load())
				}
			}
		}
	}
}

func TestSplit(t *testing.T) {
	for n, want := range map[int]int{2: 1, 3: 2, 4: 2, 5: 4, 8: 4, 9: 8, 1 << 62: 1 << 61, 1<<62 + 1: 1 << 62, math.MaxInt: 1 << 62} {
		if got := split(n); got != want {
			t.Errorf("%d: %d, want %d", n, got, want)
		}
	}
}
