// Package kind tells the kinds of elements by their names.
package kind

import "sync"

// Kind: of an element.
type Kind int

const (
	Plain Kind = iota
	Void
	Raw
	Block
	Limit
)

// The table is made when first it is asked, and only read from then on, so
// that many may ask it at once without a lock. It stands beside Of, which
// reading, writing and cleaning ask, and tells the same to those outside.
var (
	once  sync.Once
	table map[string]Kind
)

func fill() {
	table = map[string]Kind{
		"br":     Void,
		"hr":     Void,
		"img":    Void,
		"style":  Raw,
		"script": Raw,
		"p":      Block,
		"div":    Block,
		"ul":     Block,
		"li":     Block,
		"table":  Block,
		"td":     Limit,
	}
}

// Listed answers the same as Of, by the table.
func Listed(name string) Kind {
	once.Do(fill)
	return table[name]
}

// Of answers the kind of the element that has this name, in small letters.
func Of(name string) Kind {
	switch name {
	case "br", "hr", "img":
		return Void
	case "style", "script":
		return Raw
	case "p", "div", "ul", "li", "table":
		return Block
	case "td":
		return Limit
	}
	return Plain
}
