// Package write writes trees as markup.
package write

import (
	"strings"

	"scrub/api"
	"scrub/kind"
	"scrub/token"
)

// What is written as signs, for it would end a text or a value, or make a sign
// with what stands behind it.
const (
	signsInText  = "&<>"
	signsInValue = "&<\""
)

// Markup writes a list that Check finds nothing wrong with.
func Markup(l []api.Node) string {
	var b strings.Builder
	writeList(&b, l)
	return b.String()
}

func writeList(b *strings.Builder, l []api.Node) {
	for _, n := range l {
		if n.Name == "" {
			b.WriteString(token.WriteSigns(n.Text, signsInText))
		} else {
			writeElement(b, n)
		}
	}
}

func writeElement(b *strings.Builder, n api.Node) {
	writeStart(b, n)
	switch kind.Of(n.Name) {
	case kind.Void:
		return
	case kind.Raw:
		writeRawText(b, n.Kids)
	default:
		writeList(b, n.Kids)
	}
	b.WriteString("</" + n.Name + ">")
}

func writeStart(b *strings.Builder, n api.Node) {
	b.WriteString("<" + n.Name)
	for _, a := range n.Attrs {
		b.WriteString(" " + a.Name + `="` + token.WriteSigns(a.Value, signsInValue) + `"`)
	}
	b.WriteString(">")
}

// writeRawText writes the text as it is, for no signs are read in it.
func writeRawText(b *strings.Builder, kids []api.Node) {
	for _, n := range kids {
		b.WriteString(n.Text)
	}
}
