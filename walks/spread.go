package walks

import (
	"slices"
	"sync"
	"sync/atomic"
)

const unmarked = -1

// spread marks each node with how far it is from one; the nodes that are equally far are all gone through ahead of farther ones.
func spread(near [][]int, from, workers int) []int {
	marks := make([]atomic.Int64, len(near))
	for v := range marks {
		marks[v].Store(unmarked)
	}
	marks[from].Store(0)
	front := []int{from}
	for steps := 1; len(front) > 0; steps++ {
		front = sideBySide(workers, func(worker int) []int {
			var found []int
			for at := worker; at < len(front); at += workers {
				found = append(found, markNear(near[front[at]], marks, steps)...)
			}
			return found
		})
	}
	far := make([]int, len(near))
	for v := range far {
		far[v] = int(marks[v].Load())
	}
	return far
}

// sideBySide has so many workers work, waits for all of them, and answers what they found, in the order of the workers.
func sideBySide(workers int, work func(worker int) []int) []int {
	found := make([][]int, workers)
	var wait sync.WaitGroup
	for worker := range workers {
		wait.Go(func() { found[worker] = work(worker) })
	}
	wait.Wait()
	return slices.Concat(found...)
}

// markNear marks those of the nodes that have no mark, and answers them. Of several workers that come to one node at a time, one alone finds it unmarked.
func markNear(nodes []int, marks []atomic.Int64, steps int) []int {
	var found []int
	for _, v := range nodes {
		if marks[v].CompareAndSwap(unmarked, int64(steps)) {
			found = append(found, v)
		}
	}
	return found
}
