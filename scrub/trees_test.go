package scrub_test

import "scrub/api"

func text(s string) api.Node { return api.Node{Text: s} }

func element(name string, kids ...api.Node) api.Node {
	return api.Node{Name: name, Kids: kids}
}

// with answers the node with attributes, a name and a value each.
func with(n api.Node, pairs ...string) api.Node {
	for i := 0; i < len(pairs); i += 2 {
		n.Attrs = append(n.Attrs, api.Attr{Name: pairs[i], Value: pairs[i+1]})
	}
	return n
}

// within answers the nodes within so many elements.
func within(depth int, nodes ...api.Node) []api.Node {
	for range depth {
		nodes = []api.Node{element("b", nodes...)}
	}
	return nodes
}
