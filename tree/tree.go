// Package tree reads markup into a tree.
package tree

import (
	"scrub/api"
	"scrub/kind"
	"scrub/token"
)

// none is the place of an open element that there isn't: just outside the
// outermost, so that the first within it is the outermost.
const none = -1

// builder: a tree that is being read. What is open stands outermost first; an
// element goes into the one around it when it is closed, with all its kids.
type builder struct {
	top  []api.Node
	open []api.Node
}

// Read answers the tree that is read in the markup, however long that is.
func Read(markup string) []api.Node {
	var b builder
	r := token.NewReader(markup)
	for t, ok := r.Next(); ok; t, ok = r.Next() {
		switch t.Sort {
		case token.Text:
			b.text(t.Text)
		case token.Start:
			b.start(t)
		case token.End:
			b.end(t.Name)
		}
	}
	b.closeFrom(0)
	return b.top
}

// list is where what comes next goes: the innermost's kids, or the top.
func (b *builder) list() *[]api.Node {
	if len(b.open) == 0 {
		return &b.top
	}
	return &b.open[len(b.open)-1].Kids
}

// closeFrom closes the element that is open at this place, and all within it.
func (b *builder) closeFrom(place int) {
	for len(b.open) > place {
		n := b.open[len(b.open)-1]
		b.open = b.open[:len(b.open)-1]
		l := b.list()
		*l = append(*l, n)
	}
}

// push opens an element, or answers false if too many are open.
func (b *builder) push(n api.Node) bool {
	if len(b.open) >= api.MaxDepth {
		return false
	}
	b.open = append(b.open, n)
	return true
}

// innermost answers the place of the innermost that is open and such, or none.
func (b *builder) innermost(such func(name string) bool) int {
	place := len(b.open) - 1
	for place > none && !such(b.open[place].Name) {
		place--
	}
	return place
}

func (b *builder) innermostNamed(name string) int {
	return b.innermost(func(n string) bool { return n == name })
}

// limit is the place that what closes a p or an li doesn't reach beyond, nor
// most ends.
func (b *builder) limit() int {
	return b.innermost(func(n string) bool { return kind.Of(n) == kind.Limit })
}

func (b *builder) text(text string) {
	b.openCellFirst()
	l := b.list()
	last := len(*l) - 1
	if last >= 0 && (*l)[last].Name == "" {
		(*l)[last].Text += text
		return
	}
	*l = append(*l, api.Node{Text: text})
}

func (b *builder) end(name string) {
	place := b.innermostNamed(name)
	if place == none || place < b.limit() && !holdsCells(name) {
		return
	}
	b.closeFrom(place)
}

func holdsCells(name string) bool {
	return name == "table" || name == "tr"
}
