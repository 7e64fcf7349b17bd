package scrub_test

import (
	"strings"
	"sync"
	"testing"

	"scrub/api"
	"scrub/scrub"
)

// pieces are bits of markup that, side by side in any order, make good markup
// and bad.
var pieces = []string{
	"<", ">", "/", "=", `"`, "'", "&", "&lt;", " ", "a", "1", "\x00", "\xff", "-", "</", "<!--", "-->",
	"<p>", "</p>", "<b x=1>", "</B>", "<b ", "</b", "<br>", "<li>", "<ul>", "</ul>",
	"<table>", "</table>", "<tr>", "</tr>", "<td>", "</td>", "<style>", "</style>", "x=1 ", "X='",
}

// fault tells what is wrong with a list that Parse answered, if anything is.
func fault(l []api.Node, depth int) string {
	for i, n := range l {
		if n.Name == "" {
			if n.Text == "" || n.Attrs != nil || n.Kids != nil {
				return "a text that is none"
			}
			if i > 0 && l[i-1].Name == "" {
				return "texts side by side"
			}
			continue
		}
		if bad := faultOfElement(n, depth+1); bad != "" {
			return bad
		}
		if bad := fault(n.Kids, depth+1); bad != "" {
			return bad
		}
	}
	return ""
}

func faultOfElement(n api.Node, depth int) string {
	switch {
	case depth > api.MaxDepth:
		return "too deep"
	case n.Text != "":
		return "an element with a Text"
	case strings.Trim(n.Name, "abcdefghijklmnopqrstuvwxyz0123456789") != "" || n.Name[0] <= '9':
		return "a bad name"
	case n.Name == "br" && len(n.Kids) > 0:
		return "a void element with kids"
	case n.Name == "style" && (len(n.Kids) > 1 || len(n.Kids) == 1 && n.Kids[0].Name != ""):
		return "a raw element with kids"
	}
	seen := map[string]int{}
	for _, a := range n.Attrs {
		seen[a.Name]++
		if a.Name == "" || seen[a.Name] > 1 || strings.ContainsAny(a.Name, " />X") || strings.Contains(a.Name[1:], "=") {
			return "a bad attribute"
		}
	}
	return ""
}

// eachAny hands on markup good and bad: all short rows of pieces, and all pairs
// of bytes where they count.
func eachAny(check func(s string)) {
	for _, a := range pieces {
		for _, b := range pieces {
			for _, c := range pieces {
				check(a + b + c)
				check(strings.Repeat(a, 11) + b + c + a + b)
			}
		}
	}
	for a := range 256 {
		for b := range 256 {
			two := string([]byte{byte(a), byte(b)})
			for _, ahead := range []string{"", "<", "</", "<b ", "<b x=", "<style></style", "&"} {
				check(ahead + two + ">")
			}
		}
	}
}

// eachCut hands on all that can be cut out of long.
func eachCut(check func(s string)) {
	for from := range long {
		for to := from; to <= len(long); to++ {
			check(long[from:to])
		}
	}
}

func TestParseAny(t *testing.T) {
	check := func(s string) {
		l, e := scrub.Parse(s)
		if bad := fault(l, 0); bad != "" || e != api.OK {
			t.Fatalf("Parse(%q) = %s, %d: %s", s, told(l), e, bad)
		}
	}
	eachAny(check)
	eachCut(check)
}

// long is markup with all there is, to be cut anywhere.
const long = `<P a=1 B='2' "c">x &amp; <b>y</p><!-- z --><ul><li>1<li>2<ul><li>3</ul></ul>` +
	`<table>a<tr b=c><td>d<table><td>e</table></tr><td><p>f<p>g</table><style>h<i></style ><br/>&quot;` +
	`<script x>j</script>k<a href="l&lt;" src=m/n>o`

// lists collects all lists of a tree, however deep.
func lists(l []api.Node) (nodes [][]api.Node, attrs [][]api.Attr) {
	nodes = append(nodes, l)
	for _, n := range l {
		attrs = append(attrs, n.Attrs)
		moreNodes, moreAttrs := lists(n.Kids)
		nodes, attrs = append(nodes, moreNodes...), append(attrs, moreAttrs...)
	}
	return nodes, attrs
}

// countPlaces marks every place of every list, the spare room too, and tells
// how many there are and how many different marks are left.
func countPlaces(l []api.Node) (places, left int) {
	nodes, attrs := lists(l)
	mark := func() string { places++; return strings.Repeat("m", places) }
	for _, n := range nodes {
		for i := range n[:cap(n)] {
			n[:cap(n)][i].Text = mark()
		}
	}
	for _, a := range attrs {
		for i := range a[:cap(a)] {
			a[:cap(a)][i].Value = mark()
		}
	}
	marks := map[string]int{}
	for _, n := range nodes {
		for _, x := range n[:cap(n)] {
			marks[x.Text]++
		}
	}
	for _, a := range attrs {
		for _, x := range a[:cap(a)] {
			marks[x.Value]++
		}
	}
	return places, len(marks)
}

func TestParseSharesNoRoom(t *testing.T) {
	for _, s := range []string{
		long,
		`<b x=1 y=2 z=3>a<i x=1 y=2 z=3>b</i>c</b>d<b x=1 y=2 z=3>e<br>f`,
		strings.Repeat("<li x=1>a<b>c</b>d", 20),
	} {
		first, _ := scrub.Parse(s)
		second, _ := scrub.Parse(s)
		want := told(second)
		both := []api.Node{{Name: "first", Kids: first}, {Name: "second", Kids: second}}
		if places, left := countPlaces(both); places != left {
			t.Errorf("Parse(%q): of %d places only %d are of their own", s, places, left)
		}
		third, _ := scrub.Parse(s)
		if got := told(third); got != want {
			t.Errorf("Parse(%q) after writing into its answers\n got %s\nwant %s", s, got, want)
		}
	}
}

func TestParseInManyGoroutines(t *testing.T) {
	want, _ := scrub.Parse(long)
	var wait sync.WaitGroup
	got := make([]string, 50)
	for i := range got {
		wait.Go(func() {
			l, _ := scrub.Parse(long)
			got[i] = told(l)
		})
	}
	wait.Wait()
	for _, g := range got {
		if g != told(want) {
			t.Errorf("Parse(%q)\n got %s\nwant %s", long, g, told(want))
		}
	}
}

func FuzzParse(f *testing.F) {
	f.Add(long)
	for _, p := range pieces {
		f.Add(p)
	}
	f.Fuzz(func(t *testing.T, s string) {
		if len(s) <= api.MaxText {
			l, e := scrub.Parse(s)
			if e != api.OK || len(l) > len(s) {
				t.Errorf("Parse(%q): %d nodes, %d", s, len(l), e)
			}
		}
	})
}
