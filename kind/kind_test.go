package kind

import (
	"sync"
	"testing"
)

// names: all that the document lists, by their kinds, and some that it doesn't.
var names = map[Kind][]string{
	Plain: {"", "a", "b", "tr", "th", "tbody", "span", "BR", "Td", "pp", "td1", "tabl", "styles", " p", "p ", "\x00", "é"},
	Void:  {"br", "hr", "img"},
	Raw:   {"style", "script"},
	Block: {"p", "div", "ul", "li", "table"},
	Limit: {"td"},
}

func TestOf(t *testing.T) {
	for want, list := range names {
		for _, name := range list {
			if got := Of(name); got != want {
				t.Errorf("Of(%q) = %d, want %d", name, got, want)
			}
		}
	}
}

func TestListedTellsTheSame(t *testing.T) {
	for _, list := range names {
		for _, name := range list {
			if listed, of := Listed(name), Of(name); listed != of {
				t.Errorf("Listed(%q) = %d, Of tells %d", name, listed, of)
			}
		}
	}
	count := 0
	for want, list := range names {
		if want != Plain {
			count += len(list)
		}
	}
	if len(table) != count {
		t.Errorf("%d names are in the table, of %d that are listed", len(table), count)
	}
}

func TestListedByManyAtOnce(t *testing.T) {
	// The table is made for all of them, once.
	Forget()
	var wait sync.WaitGroup
	for range 20 {
		wait.Go(func() {
			if Listed("td") != Limit {
				t.Error("td isn't a limit to one of many that ask first")
			}
		})
	}
	wait.Wait()
}
