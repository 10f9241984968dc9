package tree

import (
	"sync"
	"sync/atomic"

	"forks/api"
)

// Root tells a list's root; so many workers work at a time (1 to api.MaxWorkers, or the nearest of these).
func Root(l []string, workers int) string {
	return rootOf(l, nearest(workers)).text()
}

func nearest(workers int) int { return min(max(workers, 1), api.MaxWorkers) }

// rootOf goes up level by level: as each first half is a power of two, its halves are the pairs of the level below, and what is left over goes up as it is.
func rootOf(l []string, workers int) hash {
	if len(l) == 0 {
		return noEntry()
	}
	level := leaves(l, workers)
	for len(level) > 1 {
		level = above(level, workers)
	}
	return level[0]
}

func leaves(l []string, workers int) []hash {
	level := make([]hash, len(l))
	share(len(level), workers, func(i int) { level[i] = leaf(l[i]) })
	return level
}

func above(level []hash, workers int) []hash {
	up := make([]hash, len(level)-len(level)/2)
	share(len(up), workers, func(i int) { up[i] = pair(level, i) })
	return up
}

func pair(level []hash, i int) hash {
	if 2*i+1 == len(level) {
		return level[2*i]
	}
	return node(level[2*i], level[2*i+1])
}

// share has each of n pieces of work done by one of the workers, and comes back when all are done. A worker that is through takes the next piece; as each piece has a place of its own, it is not to be seen who did it.
func share(n, workers int, do func(i int)) {
	var next atomic.Int64
	var all sync.WaitGroup
	for range workers {
		all.Add(1)
		go func() {
			defer all.Done()
			for i := int(next.Add(1) - 1); i < n; i = int(next.Add(1) - 1) {
				do(i)
			}
		}()
	}
	all.Wait()
}
