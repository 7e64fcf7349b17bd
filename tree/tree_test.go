package tree

import (
	"reflect"
	"strings"
	"testing"

	"scrub/api"
)

func TestRead(t *testing.T) {
	want := []api.Node{
		{Name: "p", Attrs: []api.Attr{{Name: "x", Value: "1"}}, Kids: []api.Node{
			{Text: "a"},
			{Name: "br"},
		}},
		{Name: "style", Kids: []api.Node{{Text: "<b>"}}},
		{Text: "c"},
	}
	if got := Read(`<p x=1>a<br></p><style><b></style>c`); !reflect.DeepEqual(got, want) {
		t.Errorf("got %+v, want %+v", got, want)
	}
}

func TestReadHoweverLong(t *testing.T) {
	text := strings.Repeat("a", 10*api.MaxText)
	if got := Read("<b>" + text); len(got) != 1 || len(got[0].Kids) != 1 || got[0].Kids[0].Text != text {
		t.Errorf("a text of %d bytes isn't read whole", len(text))
	}
	if got := Read(strings.Repeat("<br>", api.MaxText)); len(got) != api.MaxText {
		t.Errorf("of %d elements %d are read", api.MaxText, len(got))
	}
}
