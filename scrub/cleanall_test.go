package scrub_test

import (
	"runtime"
	"slices"
	"strings"
	"sync"
	"testing"

	"scrub/api"
	"scrub/scrub"
)

func checkAll(t *testing.T, p api.Policy, l []string, want []string, wantErr api.Errno) {
	t.Helper()
	got, e := scrub.CleanAll(p, l)
	if !slices.Equal(got, want) || e != wantErr {
		t.Errorf("CleanAll(%q, %q)\n got %q, %d\nwant %q, %d", p, l, got, e, want, wantErr)
	}
	if wantErr != api.OK && got != nil {
		t.Errorf("CleanAll(%q, %q): a list beside the error %d", p, l, wantErr)
	}
}

func TestCleanAll(t *testing.T) {
	p := lets("li b", "x")
	checkAll(t, p, nil, nil, api.OK)
	checkAll(t, p, []string{}, nil, api.OK)
	checkAll(t, p, []string{""}, []string{""}, api.OK)
	checkAll(t, p, []string{"<b x=1 y=2>a"}, []string{`<b x="1">a</b>`}, api.OK)
	checkAll(t, p,
		[]string{"a", "<ul><li>a<ul><li>b", "", "<i>b", "a", "<script>c"},
		[]string{"a", "<li>a</li><li>b</li>", "", "b", "a", ""}, api.OK)
	// One that gives nothing leaves the others as they are.
	checkAll(t, lets("table b", ""), []string{"<b>a", "<table>a", "<b>c"}, []string{"<b>a</b>", "", "<b>c</b>"}, api.OK)
}

func TestCleanAllKeepsTheOrder(t *testing.T) {
	var l, want []string
	for i := range api.MaxTexts {
		// The first have the most to do, so that they are ready last.
		work := strings.Repeat("<b>&</b>", (api.MaxTexts-i)*4)
		l = append(l, work+strings.Repeat("x", i))
		want = append(want, strings.ReplaceAll(work, "&", "&amp;")+strings.Repeat("x", i))
	}
	for range 200 {
		checkAll(t, lets("b", ""), l, want, api.OK)
	}
}

func TestCleanAllRefuses(t *testing.T) {
	p := lets("b", "x")
	most := strings.Repeat("a", api.MaxText)
	full := slices.Repeat([]string{most}, api.MaxTexts)
	checkAll(t, p, full, full, api.OK)
	checkAll(t, p, append(full[:api.MaxTexts:api.MaxTexts], ""), nil, api.ErrMany)
	checkAll(t, p, make([]string, 1000), nil, api.ErrMany)
	for at := range full {
		l := slices.Clone(full)
		l[at] += "a"
		checkAll(t, p, l, nil, api.ErrLong)
		checkAll(t, p, append(l, ""), nil, api.ErrMany)
	}
	checkAll(t, p, []string{most + "<i>"}, nil, api.ErrLong)
	checkAll(t, p, append(make([]string, api.MaxTexts), most+"a"), nil, api.ErrMany)
	for _, bad := range refused() {
		checkAll(t, bad, nil, nil, api.ErrPolicy)
		checkAll(t, bad, []string{"a"}, nil, api.ErrPolicy)
		checkAll(t, bad, []string{most + "a"}, nil, api.ErrPolicy)
		checkAll(t, bad, make([]string, api.MaxTexts+1), nil, api.ErrPolicy)
		checkAll(t, bad, slices.Repeat([]string{most + "a"}, api.MaxTexts+1), nil, api.ErrPolicy)
	}
}

// spare answers a copy of the list that has spare room, with marks in it.
func spare(l []string) []string {
	return append(slices.Clone(l), "mark", "mark")[: len(l) : len(l)+2]
}

func TestCleanLeavesItsArguments(t *testing.T) {
	texts := []string{long, "<ul><li>a<ul><li>b", "<table>a", "<a href=x src=/>"}
	policies := append(refused(), api.Policy{}, lets("li ul b table style", "x href a src"), lets("table", "src"))
	for _, l := range [][]string{texts, make([]string, api.MaxTexts+1), {strings.Repeat("a", api.MaxText+1)}} {
		for _, p := range policies {
			given := api.Policy{Elements: spare(p.Elements), Attrs: spare(p.Attrs)}
			handed := spare(l)
			all, _ := scrub.CleanAll(given, handed)
			for _, s := range l {
				scrub.Clean(given, s)
			}
			for i := range all[:cap(all)] {
				all[:cap(all)][i] = "written into"
			}
			if !sameRoom(given.Elements, p.Elements) || !sameRoom(given.Attrs, p.Attrs) {
				t.Errorf("the policy %q is now %q", p, given)
			}
			if !sameRoom(handed, l) {
				t.Errorf("the list %q is now %q", l, handed)
			}
		}
	}
}

// sameRoom tells if the list is what spare answered of that one.
func sameRoom(l, of []string) bool {
	return slices.Equal(l[:cap(l)], append(slices.Clone(of), "mark", "mark"))
}

func TestCleanAllAnswersNewMemory(t *testing.T) {
	p := lets("b", "")
	l := []string{"<b>a", "c", "<i>d"}
	first, _ := scrub.CleanAll(p, l)
	second, _ := scrub.CleanAll(p, l)
	for i := range first[:cap(first)] {
		first[:cap(first)][i] = "written into"
	}
	third, _ := scrub.CleanAll(p, l)
	want := []string{"<b>a</b>", "c", "d"}
	if !slices.Equal(second, want) || !slices.Equal(third, want) || !slices.Equal(l, []string{"<b>a", "c", "<i>d"}) {
		t.Errorf("after writing into an answer: %q, %q of %q", second, third, l)
	}
}

func TestCleanAllInManyGoroutines(t *testing.T) {
	p := lets("p b ul li table tr td style", "a x")
	l := []string{long, "<ul><li>a<ul><li>b", "<table>a", long[100:]}
	want, _ := scrub.CleanAll(p, l)
	got := make([][]string, 50)
	var wait sync.WaitGroup
	for i := range got {
		wait.Go(func() { got[i], _ = scrub.CleanAll(p, l) })
	}
	wait.Wait()
	for _, g := range got {
		if !slices.Equal(g, want) {
			t.Errorf("CleanAll\n got %q\nwant %q", g, want)
		}
	}
}

func TestCleanAllLeavesNoGoroutine(t *testing.T) {
	before := runtime.NumGoroutine()
	for range 100 {
		scrub.CleanAll(lets("b", ""), slices.Repeat([]string{long}, api.MaxTexts))
	}
	// One that is done may still be counted for a moment.
	for tries := 0; runtime.NumGoroutine() > before && tries < 1000000; tries++ {
		runtime.Gosched()
	}
	if after := runtime.NumGoroutine(); after > before {
		t.Errorf("%d goroutines ahead of the calls, %d behind them", before, after)
	}
}
