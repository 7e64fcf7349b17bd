package clean

import (
	"scrub/api"
	"scrub/kind"
)

// filter answers a list of its own: what the policy lets by of this one.
func filter(p api.Policy, l []api.Node) []api.Node {
	var left []api.Node
	for _, n := range l {
		for _, stays := range leftOf(p, n) {
			left = withNode(left, stays)
		}
	}
	return left
}

// leftOf answers what stands in the place of the node.
func leftOf(p api.Policy, n api.Node) []api.Node {
	switch {
	case n.Name == "":
		return []api.Node{{Text: n.Text}}
	case letsElement(p, n.Name):
		return []api.Node{{Name: n.Name, Attrs: filterAttrs(p, n.Attrs), Kids: filter(p, n.Kids)}}
	case kind.Of(n.Name) == kind.Raw:
		return nil
	}
	return filter(p, n.Kids)
}

func filterAttrs(p api.Policy, l []api.Attr) []api.Attr {
	var left []api.Attr
	for _, a := range l {
		if letsAttr(p, a) {
			left = append(left, a)
		}
	}
	return left
}

// withNode makes one text of two that would stand beside one another, for so
// they are read.
func withNode(l []api.Node, n api.Node) []api.Node {
	last := len(l) - 1
	if n.Name == "" && last >= 0 && l[last].Name == "" {
		l[last].Text += n.Text
		return l
	}
	return append(l, n)
}
