// Package clean cleans markup by a policy, until it stays as it is when it is
// read again.
package clean

import (
	"sync"

	"scrub/api"
	"scrub/tree"
	"scrub/write"
)

// Markup answers what is left of the markup, or nothing if no round gives what
// stays as it is. What is read again is at once what the next round is of.
func Markup(p api.Policy, markup string) string {
	l := tree.Read(markup)
	for range api.MaxRounds {
		left := filter(p, l)
		written := write.Markup(left)
		l = tree.Read(written)
		if same(l, left) {
			return written
		}
	}
	return ""
}

// All answers what Markup answers of each. Each goroutine writes into a place
// of its own, so that they need no lock.
func All(p api.Policy, markups []string) []string {
	cleaned := make([]string, len(markups))
	var wait sync.WaitGroup
	for i, markup := range markups {
		wait.Add(1)
		go func() {
			defer wait.Done()
			cleaned[i] = Markup(p, markup)
		}()
	}
	wait.Wait()
	return cleaned
}
