package clean

import (
	"reflect"
	"strings"
	"testing"

	"scrub/api"
	"scrub/tree"
)

var policy = api.Policy{Elements: []string{"p", "b", "style"}, Attrs: []string{"x", "href"}}

func TestFilter(t *testing.T) {
	for markup, want := range map[string][]api.Node{
		``:                          nil,
		`<i></i><script>a`:          nil,
		`a<i>b</i>c<hr>d`:           {{Text: "abcd"}},
		`<i><u>a</u>b</i>c`:         {{Text: "abc"}},
		`a<script>b</script>c`:      {{Text: "ac"}},
		`<b>a<i>b</i></b><i>c`:      {{Name: "b", Kids: []api.Node{{Text: "ab"}}}, {Text: "c"}},
		`<i>a<b>b</b></i>c`:         {{Text: "a"}, {Name: "b", Kids: []api.Node{{Text: "b"}}}, {Text: "c"}},
		`<style>a<b></style>b`:      {{Name: "style", Kids: []api.Node{{Text: "a<b>"}}}, {Text: "b"}},
		`<p y=1 x=2 href=x></p><p>`: {{Name: "p", Attrs: []api.Attr{{Name: "x", Value: "2"}}}, {Name: "p"}},
		`<p href=/ x>`:              {{Name: "p", Attrs: []api.Attr{{Name: "href", Value: "/"}, {Name: "x"}}}},
	} {
		if got := filter(policy, tree.Read(markup)); !reflect.DeepEqual(got, want) {
			t.Errorf("of %q is left %+v, want %+v", markup, got, want)
		}
	}
}

func TestSame(t *testing.T) {
	trees := []string{
		``, `a`, `b`, `<b>`, `<i>`, `<b>a`, `<b></b>a`, `<b>b`, `<b><b>`, `<b></b><b>`, `<b x>`, `<b x=1>`, `<b y=1>`,
		`<b x=1 y=1>`, `<b y=1 x=1>`, `<b><i x=1>a`, `<b><i x=2>a`, `<b><i x=1>b`, `<b><i x=1>a</i>b`,
	}
	for _, a := range trees {
		for _, b := range trees {
			if got, want := same(tree.Read(a), tree.Read(b)), a == b; got != want {
				t.Errorf("same of %q and %q: %v", a, b, got)
			}
		}
	}
	if same([]api.Node{{Text: "a"}, {Text: "b"}}, []api.Node{{Text: "ab"}}) {
		t.Error("two texts are the same as one")
	}
	if !same([]api.Node{{Name: "b", Attrs: []api.Attr{}, Kids: []api.Node{}}}, []api.Node{{Name: "b"}}) {
		t.Error("an empty list isn't the same as none")
	}
}

func TestMarkupHoweverLong(t *testing.T) {
	text := strings.Repeat("a", 10*api.MaxText)
	if got, want := Markup(policy, "<i><b>"+text), "<b>"+text+"</b>"; got != want {
		t.Errorf("of %d bytes %d are left, want %d", len(text)+6, len(got), len(want))
	}
}

func TestIsPolicy(t *testing.T) {
	name := strings.Repeat("x", api.MaxName)
	names := func(count int) []string { return strings.Fields(strings.Repeat(name+" ", count)) }
	for _, c := range []struct {
		p    api.Policy
		want bool
	}{
		{api.Policy{}, true},
		{policy, true},
		{api.Policy{Elements: names(api.MaxNames), Attrs: names(api.MaxNames)}, true},
		{api.Policy{Elements: names(api.MaxNames + 1)}, false},
		{api.Policy{Attrs: names(api.MaxNames + 1)}, false},
		{api.Policy{Elements: []string{"a", ""}}, false},
		{api.Policy{Attrs: []string{name + "x"}}, false},
	} {
		if got := IsPolicy(c.p); got != c.want {
			t.Errorf("IsPolicy(%q) = %v", c.p, got)
		}
	}
}
