package kind

import (
	"sync"
	"testing"
)

func TestOf(t *testing.T) {
	// First asked by many at once: the table is made for all of them.
	var wait sync.WaitGroup
	for range 20 {
		wait.Go(func() {
			if Of("td") != Limit {
				t.Error("td isn't a limit to one of many that ask first")
			}
		})
	}
	wait.Wait()
	for want, names := range map[Kind][]string{
		Plain: {"", "a", "b", "tr", "tbody", "span", "BR", "pp", "td1"},
		Void:  {"br", "hr", "img"},
		Raw:   {"style", "script"},
		Block: {"p", "div", "ul", "li", "table"},
		Limit: {"td"},
	} {
		for _, name := range names {
			if got := Of(name); got != want {
				t.Errorf("Of(%q) = %d, want %d", name, got, want)
			}
		}
	}
}
