package write

import (
	"testing"

	"scrub/api"
)

func TestMarkup(t *testing.T) {
	l := []api.Node{
		{Name: "p", Attrs: []api.Attr{{Name: "x", Value: `<"`}, {Name: "y"}}, Kids: []api.Node{
			{Text: "a & b"},
			{Name: "br"},
		}},
		{Name: "style", Kids: []api.Node{{Text: "a & <b>"}}},
		{Text: ">"},
	}
	want := `<p x="&lt;&quot;" y="">a &amp; b<br></p><style>a & <b></style>&gt;`
	if got := Markup(l); got != want || Check(l) != api.OK {
		t.Errorf("Markup: %q, Check: %d, want %q", got, Check(l), want)
	}
}

func TestCheck(t *testing.T) {
	deep := []api.Node{{}}
	for range api.MaxDepth {
		deep = []api.Node{{Name: "b", Kids: deep}}
	}
	for _, c := range []struct {
		l    []api.Node
		want api.Errno
	}{
		{nil, api.OK},
		{[]api.Node{{Text: "a"}, {Name: "b"}}, api.OK},
		{[]api.Node{{}}, api.ErrNode},
		{[]api.Node{{Name: "b", Kids: []api.Node{{Name: "B"}}}}, api.ErrNode},
		{deep, api.ErrNode},
		{[]api.Node{{Name: "b", Kids: deep}}, api.ErrDeep},
	} {
		if got := Check(c.l); got != c.want {
			t.Errorf("Check(%v) = %d, want %d", c.l, got, c.want)
		}
	}
}
