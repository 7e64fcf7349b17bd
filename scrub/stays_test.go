package scrub_test

import (
	"math/rand"
	"slices"
	"strings"
	"testing"

	"scrub/api"
	"scrub/scrub"
	"scrub/tree"
)

// cleaned works out what Clean must answer in another way than the program: it
// writes what is let by straight from the tree, and takes what is written the
// same again for the same tree.
func cleaned(p api.Policy, s string) string {
	for range api.MaxRounds {
		s = skimmed(p, tree.Read(s))
		if again, e := scrub.Write(tree.Read(s)); e == api.OK && again == s {
			return s
		}
	}
	return ""
}

func skimmed(p api.Policy, l []api.Node) string {
	out := ""
	for _, n := range l {
		raw := n.Name == "style" || n.Name == "script"
		open, shut := "", ""
		if slices.Contains(p.Elements, n.Name) {
			open, shut, _ = strings.Cut(written(api.Node{Name: n.Name, Attrs: skimmedAttrs(p, n.Attrs)}), "></")
			if shut != "" {
				open, shut = open+">", "</"+shut
			}
		}
		switch {
		case n.Name == "":
			out += written(n)
		case raw && open == "":
		case raw && len(n.Kids) > 0:
			out += open + n.Kids[0].Text + shut
		default:
			out += open + skimmed(p, n.Kids) + shut
		}
	}
	return out
}

func written(n api.Node) string {
	s, _ := scrub.Write([]api.Node{n})
	return s
}

func skimmedAttrs(p api.Policy, l []api.Attr) []api.Attr {
	return slices.DeleteFunc(slices.Clone(l), func(a api.Attr) bool { return !isLet(p, a) })
}

func isLet(p api.Policy, a api.Attr) bool {
	if a.Name == "href" || a.Name == "src" {
		ahead, _, found := strings.Cut(a.Value, ":")
		if !(found && (ahead == "http" || ahead == "https")) && strings.IndexAny(a.Value, "/#") != 0 {
			return false
		}
	}
	return slices.Contains(p.Attrs, a.Name)
}

// unclean tells what stands in a list that is read in an answer of Clean and is
// not the policy's, if anything does.
func unclean(p api.Policy, l []api.Node) string {
	for _, n := range l {
		if n.Name != "" && !slices.Contains(p.Elements, n.Name) {
			return n.Name
		}
		for _, a := range n.Attrs {
			if !isLet(p, a) {
				return n.Name + " " + a.Name
			}
		}
		if bad := unclean(p, n.Kids); bad != "" {
			return bad
		}
	}
	return ""
}

func checkStays(t *testing.T, p api.Policy, s string) {
	t.Helper()
	got, e := scrub.Clean(p, s)
	if want := cleaned(p, s); got != want || e != api.OK {
		t.Fatalf("Clean(%q, %q)\n got %q, %d\nwant %q", p, s, got, e, want)
	}
	if bad := unclean(p, tree.Read(got)); bad != "" {
		t.Fatalf("Clean(%q, %q) = %q: %s is read in it", p, s, got, bad)
	}
	if len(got) > api.MaxText {
		return
	}
	if again, e := scrub.Clean(p, got); again != got || e != api.OK {
		t.Fatalf("Clean(%q, %q) = %q\ncleaned again %q, %d", p, s, got, again, e)
	}
}

// drawnPolicy lets by some of what the pieces are made of.
func drawnPolicy(draw *rand.Rand) api.Policy {
	some := func(list string) []string {
		return slices.DeleteFunc(strings.Fields(list), func(string) bool { return draw.Intn(2) == 0 })
	}
	return api.Policy{Elements: some("p b br li ul table tr td style script a B"), Attrs: some("x a b c \"c\" href src < '")}
}

// drawnMarkup may be longer than MaxText.
func drawnMarkup(draw *rand.Rand, most int) string {
	more := append(slices.Clone(pieces), "<i>", "</i>", "<script>", "</script>", "<hr>", "<div>", "</div>", "</li>",
		"<a href=/x>", `<a href="x" src='#y'>`, "</a>")
	var b strings.Builder
	for range draw.Intn(most) {
		b.WriteString(more[draw.Intn(len(more))])
	}
	return b.String()
}

func TestStays(t *testing.T) {
	for _, p := range []api.Policy{
		{},
		lets("p b a li ul", "x href"),
		lets("p b a li table td", "x src a"),
		lets("p b a li table tr", "x src a"),
		lets("p b br li table tr td", "x \"c\" href"),
		lets("tr td style a", "href src b"),
	} {
		check := func(s string) { checkStays(t, p, s) }
		for from := range long {
			check(long[from:])
			check(long[:from])
			check(long[from/2 : from])
		}
		for _, a := range pieces {
			for _, b := range pieces {
				check(a + b)
				check(strings.Repeat(a, 11) + b + a + b)
				check(strings.Repeat("<i>", 6) + strings.Repeat(a, 5) + b + "a" + a + b)
			}
		}
	}
}

func TestStaysDrawn(t *testing.T) {
	draw := rand.New(rand.NewSource(1))
	for range 10000 {
		if s := drawnMarkup(draw, 60); len(s) <= api.MaxText {
			checkStays(t, drawnPolicy(draw), s)
		}
	}
}

func TestCleanAllAsClean(t *testing.T) {
	draw := rand.New(rand.NewSource(2))
	for range 500 {
		p := drawnPolicy(draw)
		var l []string
		for range draw.Intn(api.MaxTexts + 1) {
			l = append(l, drawnMarkup(draw, 30))
		}
		all, e := scrub.CleanAll(p, l)
		if e != api.OK || len(all) != len(l) {
			t.Fatalf("CleanAll(%q, %q): %d texts of %d, %d", p, l, len(all), len(l), e)
		}
		for i, s := range l {
			if one, e := scrub.Clean(p, s); all[i] != one || e != api.OK {
				t.Fatalf("Clean(%q, %q) = %q, %d, by CleanAll %q", p, s, one, e, all[i])
			}
		}
	}
}

func FuzzStays(f *testing.F) {
	f.Add("p b li", "x href", long)
	for _, p := range pieces {
		f.Add("table td b", "x", p)
	}
	f.Fuzz(func(t *testing.T, elements, attrs, s string) {
		p := lets(elements, attrs)
		if _, e := scrub.Clean(p, s); e == api.OK {
			checkStays(t, p, s)
		}
	})
}
