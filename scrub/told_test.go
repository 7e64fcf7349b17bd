package scrub_test

import (
	"strconv"
	"strings"
	"testing"

	"scrub/api"
	"scrub/scrub"
)

// told tells a tree whole: texts and values quoted, so that no two trees are
// told the same; what a node may not have is told behind a '!'.
func told(l []api.Node) string {
	var parts []string
	for _, n := range l {
		parts = append(parts, toldNode(n))
	}
	return strings.Join(parts, " ")
}

func toldNode(n api.Node) string {
	if n.Name == "" {
		s := strconv.Quote(n.Text)
		if n.Text == "" || len(n.Attrs) > 0 || len(n.Kids) > 0 {
			s += "!"
		}
		return s
	}
	s := n.Name
	for _, a := range n.Attrs {
		s += "[" + a.Name + "=" + strconv.Quote(a.Value) + "]"
	}
	s += "(" + told(n.Kids) + ")"
	if n.Text != "" {
		s += "!" + strconv.Quote(n.Text)
	}
	return s
}

type reading struct {
	markup, want string
}

func checkReadings(t *testing.T, list []reading) {
	t.Helper()
	for _, r := range list {
		l, e := scrub.Parse(r.markup)
		if got := told(l); e != api.OK || got != r.want {
			t.Errorf("Parse(%q)\n got %s, %d\nwant %s, 0", r.markup, got, e, r.want)
		}
	}
}

// nested tells n elements within one another, with what is told in the last.
func nested(name string, n int, within string) string {
	return strings.Repeat(name+"(", n) + within + strings.Repeat(")", n)
}
