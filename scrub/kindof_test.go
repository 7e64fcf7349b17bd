package scrub_test

import (
	"strings"
	"testing"

	"scrub/api"
	"scrub/kind"
	"scrub/scrub"
)

func TestKindOf(t *testing.T) {
	for names, want := range map[string]kind.Kind{
		"br hr img":                     kind.Void,
		"style script":                  kind.Raw,
		"p div ul li table":             kind.Block,
		"td":                            kind.Limit,
		"a b tr th BR Td pp td1 \x00 é": kind.Plain,
		strings.Repeat("p", 10000):      kind.Plain,
	} {
		for _, name := range strings.Fields(names) {
			if got := scrub.KindOf(name); got != want {
				t.Errorf("KindOf(%.20q) = %d, want %d", name, got, want)
			}
		}
	}
	for _, none := range []string{"", " ", "p ", " td"} {
		if got := scrub.KindOf(none); got != kind.Plain {
			t.Errorf("KindOf(%q) = %d, want %d", none, got, kind.Plain)
		}
	}
}

// The table tells the kinds, the calls work them out: what Write takes must be
// what KindOf says that it takes.
func TestKindOfTellsWhatWriteTakes(t *testing.T) {
	text, element := api.Node{Text: "a"}, api.Node{Name: "b"}
	for _, name := range strings.Fields("br hr img style script p div ul li table td tr a b th") {
		k := scrub.KindOf(name)
		for _, c := range []struct {
			kids  []api.Node
			takes bool
		}{
			{nil, true},
			{[]api.Node{text}, k != kind.Void},
			{[]api.Node{element}, k != kind.Void && k != kind.Raw},
			{[]api.Node{text, element}, k != kind.Void && k != kind.Raw},
		} {
			_, e := scrub.Write([]api.Node{{Name: name, Kids: c.kids}})
			if takes := e == api.OK; takes != c.takes {
				t.Errorf("Write of %s, of kind %d, with %d kids: error %d", name, k, len(c.kids), e)
			}
		}
	}
}
