package tree

import (
	"scrub/api"
	"scrub/kind"
	"scrub/token"
)

func (b *builder) start(t token.Token) {
	switch t.Name {
	case "tr":
		b.startRow(t.Attrs)
	case "td":
		b.startCell(t.Attrs)
	default:
		b.startOther(t)
	}
}

func (b *builder) startRow(attrs []api.Attr) {
	table := b.innermostNamed("table")
	if table == none {
		return
	}
	b.closeFrom(table + 1)
	b.push(api.Node{Name: "tr", Attrs: attrs})
}

func (b *builder) startCell(attrs []api.Attr) {
	table := b.innermostNamed("table")
	if table == none {
		return
	}
	if row := b.innermostNamed("tr"); row > table {
		b.closeFrom(row + 1)
	} else {
		b.startRow(nil)
	}
	b.push(api.Node{Name: "td", Attrs: attrs})
}

// openCellFirst is for what can't stand in a table or a tr itself. Where the td
// would be too deep it stands there all the same.
func (b *builder) openCellFirst() {
	if len(b.open) > 0 && holdsCells(b.open[len(b.open)-1].Name) {
		b.startCell(nil)
	}
}

func (b *builder) startOther(t token.Token) {
	b.openCellFirst()
	itsKind := kind.Of(t.Name)
	if itsKind == kind.Block {
		b.closeParagraph()
	}
	if t.Name == "li" {
		b.closeItem()
	}
	if !b.push(api.Node{Name: t.Name, Attrs: t.Attrs}) {
		return
	}
	if t.Text != "" {
		b.text(t.Text)
	}
	if itsKind == kind.Void {
		b.closeFrom(len(b.open) - 1)
	}
}

func (b *builder) closeParagraph() {
	if place := b.innermostNamed("p"); place > b.limit() {
		b.closeFrom(place)
	}
}

// closeItem stops at a ul too, for the li around that goes on.
func (b *builder) closeItem() {
	place := b.innermost(func(n string) bool { return n == "li" || n == "ul" })
	if place > b.limit() && b.open[place].Name == "li" {
		b.closeFrom(place)
	}
}
