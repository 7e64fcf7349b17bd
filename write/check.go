package write

import (
	"scrub/api"
	"scrub/kind"
	"scrub/token"
)

// Check answers why the list can't be written, or OK. That it is too deep is
// asked first, for it is the first answer where both hold, and what isn't too
// deep may be gone through by functions that call themselves.
func Check(l []api.Node) api.Errno {
	switch {
	case tooDeep(l):
		return api.ErrDeep
	case !areNodes(l):
		return api.ErrNode
	}
	return api.OK
}

// level: a list, and how many elements it stands within.
type level struct {
	list   []api.Node
	within int
}

// tooDeep keeps what is left to look at in a list of its own: texts that
// wrongly have kids are no elements, so that nothing bounds how deep they are.
func tooDeep(l []api.Node) bool {
	left := []level{{list: l}}
	for len(left) > 0 {
		at := left[len(left)-1]
		left = left[:len(left)-1]
		for _, n := range at.list {
			within := at.within
			if n.Name != "" {
				within++
			}
			if within > api.MaxDepth {
				return true
			}
			if len(n.Kids) > 0 {
				left = append(left, level{n.Kids, within})
			}
		}
	}
	return false
}

func areNodes(l []api.Node) bool {
	for _, n := range l {
		if !isText(n) && !isElement(n) {
			return false
		}
	}
	return true
}

func isText(n api.Node) bool {
	return n.Name == "" && n.Text != "" && len(n.Attrs) == 0 && len(n.Kids) == 0
}

func isElement(n api.Node) bool {
	return token.IsName(n.Name) && n.Text == "" && areAttrs(n.Attrs) && holdsItsKids(n)
}

func areAttrs(l []api.Attr) bool {
	seen := make(map[string]int, len(l))
	for _, a := range l {
		seen[a.Name]++
		if !token.IsAttrName(a.Name) || seen[a.Name] > 1 {
			return false
		}
	}
	return true
}

// holdsItsKids tells if all kids are nodes, and such as the element may have.
func holdsItsKids(n api.Node) bool {
	switch kind.Of(n.Name) {
	case kind.Void:
		return len(n.Kids) == 0
	case kind.Raw:
		return len(n.Kids) == 0 || len(n.Kids) == 1 && isRawText(n.Kids[0], n.Name)
	}
	return areNodes(n.Kids)
}

func isRawText(n api.Node, name string) bool {
	return isText(n) && !token.HoldsEnd(n.Text, name)
}
