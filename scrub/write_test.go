package scrub_test

import (
	"runtime/debug"
	"strings"
	"sync"
	"testing"

	"scrub/api"
	"scrub/scrub"
)

func checkWriting(t *testing.T, l []api.Node, want string, wantErr api.Errno) {
	t.Helper()
	if s, e := scrub.Write(l); s != want || e != wantErr {
		t.Errorf("Write(%s)\n got %q, %d\nwant %q, %d", told(l), s, e, want, wantErr)
	}
}

type writing struct {
	tree []api.Node
	want string
}

func checkWritings(t *testing.T, list []writing) {
	t.Helper()
	for _, w := range list {
		checkWriting(t, w.tree, w.want, api.OK)
	}
}

func TestWriteTrees(t *testing.T) {
	checkWritings(t, []writing{
		{nil, ``},
		{[]api.Node{}, ``},
		{[]api.Node{element("p", text("a"), element("b", text("c"))), text("d")}, `<p>a<b>c</b></p>d`},
		{[]api.Node{element("b")}, `<b></b>`},
		{[]api.Node{{Name: "b", Attrs: []api.Attr{}, Kids: []api.Node{}}}, `<b></b>`},
		{[]api.Node{{Text: "a", Attrs: []api.Attr{}, Kids: []api.Node{}}}, `a`},
		{[]api.Node{text("a"), text("b")}, `ab`},
		{[]api.Node{element("b1c2", element("i"), text("a"), element("i"))}, `<b1c2><i></i>a<i></i></b1c2>`},
		{[]api.Node{text(" \t\r\n\x00\xff\x80é")}, " \t\r\n\x00\xff\x80é"},
		{[]api.Node{text(strings.Repeat("a", 10000))}, strings.Repeat("a", 10000)},
		// What would be read otherwise is written all the same.
		{[]api.Node{element("li", element("li", text("a")))}, `<li><li>a</li></li>`},
		{[]api.Node{element("p", element("p"))}, `<p><p></p></p>`},
		{[]api.Node{element("td", text("a")), element("tr")}, `<td>a</td><tr></tr>`},
		{[]api.Node{element("table", text("a"))}, `<table>a</table>`},
	})
}

func TestWriteSigns(t *testing.T) {
	checkWritings(t, []writing{
		{[]api.Node{text(`&<>"'`)}, `&amp;&lt;&gt;"'`},
		{[]api.Node{text(`&amp;&lt;&quot`)}, `&amp;amp;&amp;lt;&amp;quot`},
		{[]api.Node{text(`a<b>c</b><!--d-->`)}, `a&lt;b&gt;c&lt;/b&gt;&lt;!--d--&gt;`},
		{[]api.Node{with(element("b"), "x", `&<>"'`)}, `<b x="&amp;&lt;>&quot;'"></b>`},
		{[]api.Node{with(element("b"), "x", `&quot;`)}, `<b x="&amp;quot;"></b>`},
		{[]api.Node{with(element("b"), "&lt;", "")}, `<b &lt;=""></b>`},
	})
}

func TestWriteAttrs(t *testing.T) {
	checkWritings(t, []writing{
		{[]api.Node{with(element("b", text("a")), "x", "1", "y", "", "z", " 2 /\n")}, "<b x=\"1\" y=\"\" z=\" 2 /\n\">a</b>"},
		{[]api.Node{with(element("br"), "y", "1", "x", "2")}, `<br y="1" x="2">`},
		{[]api.Node{with(element("style", text("a")), "x", "<")}, `<style x="&lt;">a</style>`},
		{[]api.Node{with(element("b"), "=", "1", "=a", "2", `"`, "3", "<", "4", "'", "5")}, `<b =="1" =a="2" "="3" <="4" '="5"></b>`},
		{[]api.Node{with(element("b"), "x", "Y"), with(element("b"), "x", "Y")}, `<b x="Y"></b><b x="Y"></b>`},
		{[]api.Node{with(element("b", with(element("b"), "x", "1")), "x", "1")}, `<b x="1"><b x="1"></b></b>`},
	})
}

func TestWriteVoidAndRaw(t *testing.T) {
	checkWritings(t, []writing{
		{[]api.Node{element("br"), element("hr"), element("img"), text("a")}, `<br><hr><img>a`},
		{[]api.Node{element("p", element("br"), text("a"))}, `<p><br>a</p>`},
		{[]api.Node{element("style"), element("script")}, `<style></style><script></script>`},
		{[]api.Node{element("style", text(`a<b>&"&lt;</b><!--`)), text("<")}, `<style>a<b>&"&lt;</b><!--</style>&lt;`},
		{[]api.Node{element("p", element("script", text("<style>")))}, `<p><script><style></script></p>`},
	})
}

func TestWriteRawTexts(t *testing.T) {
	for _, name := range []string{"style", "script"} {
		other := map[string]string{"style": "script", "script": "style"}[name]
		big := strings.ToUpper(name)
		for _, s := range []string{
			"</" + name, "a</" + name + "b>", "</ " + name + ">", "< /" + name + ">", "<//" + name + ">",
			"</" + name + "\v>", "</" + name + "\f", "</" + name + "=", "</" + name + "\x00", "</" + name + "</" + name,
			"</" + other + ">", "<" + name + ">", name + ">", "/" + name + ">", "</" + name[1:] + ">", "</", "<", "</a" + name + ">",
		} {
			checkWriting(t, []api.Node{element(name, text(s))}, "<"+name+">"+s+"</"+name+">", api.OK)
		}
		for _, s := range []string{
			"</" + name + ">", "</" + name + "/", "</" + name + " ", "</" + name + "\t", "</" + name + "\n", "</" + name + "\r",
			"</" + big + ">", "</" + big[:3] + name[3:] + "/", "a</" + name + " b", "</" + other + "></" + name + ">c",
			"</</" + name + ">", "</" + name + "</" + name + ">", "<!--</" + name + ">-->",
		} {
			checkWriting(t, []api.Node{element(name, text(s))}, "", api.ErrNode)
			checkWriting(t, within(1, element(name, text(s))), "", api.ErrNode)
			// Elsewhere it is a text as any other.
			if _, e := scrub.Write([]api.Node{element("b", text(s)), element(other, text("</"+name+">"))}); e != api.OK {
				t.Errorf("Write of the text %q: %d", s, e)
			}
		}
	}
}

// noNodes are all things that are no node.
func noNodes() []api.Node {
	list := []api.Node{
		{},
		{Kids: []api.Node{text("a")}},
		{Attrs: []api.Attr{{Name: "x"}}},
		{Text: "a", Kids: []api.Node{text("b")}},
		{Text: "a", Kids: []api.Node{element("b")}},
		{Text: "a", Attrs: []api.Attr{{Name: "x"}}},
		{Name: "b", Text: "a"},
		{Name: "br", Text: "a"},
		{Name: "style", Text: "a"},
		{Name: "b", Text: "a", Kids: []api.Node{text("a")}},
		with(element("b"), "x", "1", "x", "1"),
		with(element("b"), "x", "1", "y", "2", "x", "3"),
		with(element("br"), "=", "1", "=", "2"),
		element("br", text("a")),
		element("hr", element("b")),
		element("img", api.Node{}),
		element("style", text("a"), text("b")),
		element("style", element("b")),
		element("script", element("b", text("a"))),
		element("script", text("a"), element("b")),
		element("script", api.Node{}),
		element("style", with(text("a"), "x", "1")),
		element("style", api.Node{Text: "a", Kids: []api.Node{text("b")}}),
		element("style", text("</style>")),
	}
	for _, name := range []string{"B", "bR", "1", "1b", "b-", "b ", " b", " ", "\n", "é", "b<", "b:c", "b_", "-", "<b>", "b\x00", "/b", "b/", "!--"} {
		list = append(list, element(name))
	}
	for _, name := range []string{"", "X", "aZ", "a b", "a\t", "\n", "a\rb", " ", "/", "a/", "/a", ">", "a>b", "a=", "a=b", "==", "=a=", "= "} {
		list = append(list, with(element("b"), name, "1"), with(element("img"), "x", "1", name, "2"))
	}
	return list
}

func TestWriteNoNodes(t *testing.T) {
	for _, bad := range noNodes() {
		for _, l := range [][]api.Node{
			{bad},
			{text("a"), element("b"), bad},
			{bad, text("a"), element("b")},
			{element("p", text("a"), element("b", text("c"), bad), text("d")), text("e")},
			{element("table", element("tr", element("td", bad)))},
			within(10, bad),
		} {
			checkWriting(t, l, "", api.ErrNode)
		}
	}
}

func bytesOf(list ...byte) string { return string(list) }

func TestWriteNamesOfAllBytes(t *testing.T) {
	for i := range 256 {
		c := byte(i)
		letter, digit, big := 'a' <= c && c <= 'z', '0' <= c && c <= '9', 'A' <= c && c <= 'Z'
		ends := strings.IndexByte("\t\n\r />", c) >= 0
		for name, good := range map[string]bool{bytesOf(c): letter, bytesOf('x', c): letter || digit, bytesOf('x', c, 'x'): letter || digit} {
			want, e := "<"+name+"></"+name+">", api.OK
			if !good {
				want, e = "", api.ErrNode
			}
			checkWriting(t, []api.Node{element(name)}, want, e)
		}
		for name, good := range map[string]bool{bytesOf(c): !big && !ends, bytesOf('x', c): !big && !ends && c != '=', bytesOf('=', c, 'x'): !big && !ends && c != '='} {
			want, e := "<b "+name+`="1"></b>`, api.OK
			if !good {
				want, e = "", api.ErrNode
			}
			checkWriting(t, []api.Node{with(element("b"), name, "1")}, want, e)
		}
	}
}

func TestWriteDepth(t *testing.T) {
	b := func(n int, in string) string { return strings.Repeat("<b>", n) + in + strings.Repeat("</b>", n) }
	checkWritings(t, []writing{
		{within(12), b(12, "")},
		{within(12, text("a")), b(12, "a")},
		{within(11, element("br"), element("style", text("a")), text("c")), b(11, "<br><style>a</style>c")},
		{append(within(12), within(12)...), b(12, "") + b(12, "")},
	})
	for _, l := range [][]api.Node{
		within(13),
		within(13, text("a")),
		within(12, element("br")),
		within(12, element("style")),
		within(12, text("a"), element("i")),
		within(100),
		append(within(12), within(13)...),
		{element("p", text("a"), element("b"), within(12)[0])},
	} {
		checkWriting(t, l, "", api.ErrDeep)
	}
}

func TestWriteDeepAheadOfNoNode(t *testing.T) {
	deep := within(13)
	for _, bad := range noNodes() {
		checkWriting(t, []api.Node{bad, deep[0]}, "", api.ErrDeep)
		checkWriting(t, []api.Node{deep[0], bad}, "", api.ErrDeep)
		checkWriting(t, within(13, bad), "", api.ErrDeep)
		checkWriting(t, []api.Node{element("b", bad, within(12)[0])}, "", api.ErrDeep)
	}
	for _, l := range [][]api.Node{
		// Elements stand within one another where no kids may be, too.
		{element("br", within(12)...)},
		{element("style", within(12)...)},
		{{Text: "a", Kids: deep}},
		{{Kids: deep}},
		within(12, api.Node{Text: "a", Kids: within(1)}),
		within(11, element("B", element("i"))),
		within(12, element("B")),
	} {
		checkWriting(t, l, "", api.ErrDeep)
	}
	// A text is no element.
	checkWriting(t, within(12, api.Node{Text: "a", Kids: []api.Node{text("b")}}), "", api.ErrNode)
	checkWriting(t, within(12, api.Node{}), "", api.ErrNode)
}

// nestedTexts answers so many texts that wrongly stand within one another.
func nestedTexts(n int, in []api.Node) []api.Node {
	for range n {
		in = []api.Node{{Text: "a", Kids: in}}
	}
	return in
}

func TestWriteEndsHoweverDeep(t *testing.T) {
	// So little room that one call for each text would not find place.
	defer debug.SetMaxStack(debug.SetMaxStack(1 << 20))
	for _, c := range []struct {
		l    []api.Node
		want api.Errno
	}{
		{within(100000), api.ErrDeep},
		{nestedTexts(100000, nil), api.ErrNode},
		{nestedTexts(100000, within(12)), api.ErrNode},
		{nestedTexts(100000, within(13)), api.ErrDeep},
		{within(6, nestedTexts(100000, within(7))...), api.ErrDeep},
	} {
		if s, e := scrub.Write(c.l); s != "" || e != c.want {
			t.Errorf("Write of a list far too deep: %q, %d, want %d", s, e, c.want)
		}
	}
}

func TestWriteMany(t *testing.T) {
	many := make([]api.Node, 50000)
	for i := range many {
		many[i] = text("a")
	}
	checkWriting(t, []api.Node{element("b", many...)}, "<b>"+strings.Repeat("a", len(many))+"</b>", api.OK)
	n := element("b")
	for i := range 50000 {
		n = with(n, "x"+strings.Repeat("a", i%10)+bytesOf("0123456789"[i/10%10], "0123456789"[i/100%10], "0123456789"[i/1000%10], "01234"[i/10000]), "")
	}
	if _, e := scrub.Write([]api.Node{n}); e != api.OK {
		t.Errorf("Write of an element with 50000 attributes: %d", e)
	}
	checkWriting(t, []api.Node{with(n, n.Attrs[0].Name, "")}, "", api.ErrNode)
}

// roomy answers a copy of the list, however deep, in which each list has spare
// room, with a mark in it.
func roomy(l []api.Node) []api.Node {
	room := make([]api.Node, len(l), len(l)+2)
	for i, n := range l {
		n.Kids = roomy(n.Kids)
		n.Attrs = append(append(make([]api.Attr, 0, len(n.Attrs)+2), n.Attrs...), api.Attr{Name: "mark"})[:len(n.Attrs)]
		room[i] = n
	}
	return append(room, text("mark"))[:len(l)]
}

// toldRoom tells the list with all its spare room.
func toldRoom(l []api.Node) string {
	var told []string
	for _, n := range l[:cap(l)] {
		s := n.Name + "|" + n.Text
		for _, a := range n.Attrs[:cap(n.Attrs)] {
			s += "|" + a.Name + "=" + a.Value
		}
		told = append(told, s+"("+toldRoom(n.Kids)+")")
	}
	return strings.Join(told, ",")
}

func TestWriteLeavesItsArgument(t *testing.T) {
	good, _ := scrub.Parse(long)
	trees := [][]api.Node{good, within(12, text("a&<>")), within(13)}
	for _, bad := range noNodes() {
		trees = append(trees, within(3, text("a"), bad))
	}
	for _, l := range trees {
		given := roomy(l)
		before := toldRoom(given)
		first, e := scrub.Write(given)
		if after := toldRoom(given); after != before {
			t.Errorf("Write writes into what is handed in\n now %s\nonce %s", after, before)
		}
		if again, f := scrub.Write(l); again != first || f != e {
			t.Errorf("Write(%s): %q, %d, and then %q, %d", told(l), first, e, again, f)
		}
	}
}

func TestWriteInManyGoroutines(t *testing.T) {
	l, _ := scrub.Parse(long)
	want, _ := scrub.Write(l)
	var wait sync.WaitGroup
	got := make([]string, 50)
	for i := range got {
		wait.Go(func() { got[i], _ = scrub.Write(l) })
	}
	wait.Wait()
	for _, g := range got {
		if g != want {
			t.Errorf("Write\n got %q\nwant %q", g, want)
		}
	}
}
