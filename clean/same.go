package clean

import (
	"slices"

	"scrub/api"
)

func same(a, b []api.Node) bool {
	return slices.EqualFunc(a, b, sameNode)
}

func sameNode(a, b api.Node) bool {
	return a.Name == b.Name && a.Text == b.Text && slices.Equal(a.Attrs, b.Attrs) && same(a.Kids, b.Kids)
}
