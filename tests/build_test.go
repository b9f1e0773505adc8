package tests

import (
	"slices"
	"strconv"
	"strings"
	"testing"

	"loop.example/g00163/impl"
)

// mostRising is how many entries, rising or falling, a tree has room for: a
// split leaves half of a page behind, and the last page is full.
const mostRising = (impl.MaxPages-1)*impl.MaxBase/2 + impl.MaxBase

func wantBuild(t *testing.T, what string, list []impl.Entry, pages int) impl.Tree {
	t.Helper()
	tree, code := impl.BuildTree(list)
	if code != impl.OK || len(tree.Pages) != pages || len(tree.Index) != pages || !impl.TreeOK(tree) {
		t.Fatalf("%s: BuildTree has %d pages, %d in the Index, code %d, want %d pages", what, len(tree.Pages), len(tree.Index), code, pages)
	}
	want, _ := plainBuild(list)
	wantTree(t, what, tree, want)
	kept := map[string]string{}
	for _, e := range list {
		kept[e.Key] = e.Value
	}
	wantTreeScan(t, what, tree, "", "", entriesIn(kept))
	for key, value := range kept {
		wantGet(t, what, tree, key, value, 0, impl.OK)
	}
	return tree
}

func wantNoBuild(t *testing.T, what string, list []impl.Entry, want int) {
	t.Helper()
	if tree, code := impl.BuildTree(list); code != want || !sameTree(tree, impl.Tree{}) {
		t.Errorf("%s: BuildTree has %d pages and code %d, want code %d", what, len(tree.Pages), code, want)
	}
}

func reversed(list []impl.Entry) []impl.Entry {
	list = slices.Clone(list)
	slices.Reverse(list)
	return list
}

// shuffled are entries in an order that goes up and down.
func shuffled(list []impl.Entry, step int) []impl.Entry {
	var all []impl.Entry
	for i := range list {
		all = append(all, list[i*step%len(list)])
	}
	return all
}

func TestBuildTreeOfFew(t *testing.T) {
	wantTree(t, "nothing", wantBuild(t, "nothing", nil, 1), impl.NewTree())
	wantTree(t, "nothing", wantBuild(t, "nothing", []impl.Entry{}, 1), impl.NewTree())
	wantTree(t, "one", wantBuild(t, "one", entriesOf("a=1"), 1), lone(whole(nil, put("a", "1"))))
	wantTree(t, "without a value", wantBuild(t, "without a value", entriesOf("a="), 1), lone(whole(nil, put("a", ""))))
	wantTree(t, "falling", wantBuild(t, "falling", entriesOf("c=1", "b=2", "a=3"), 1), lone(whole(nil, put("c", "1"), put("b", "2"), put("a", "3"))))
	wantTree(t, "a key twice", wantBuild(t, "a key twice", entriesOf("a=1", "b=2", "a=3"), 1), lone(whole(nil, put("a", "1"), put("b", "2"), put("a", "3"))))
	wantTree(t, "alike", wantBuild(t, "alike", entriesOf("a=1", "a=1"), 1), lone(whole(nil, put("a", "1"), put("a", "1"))))
	long := []impl.Entry{{Key: longKey, Value: longValue}, {Key: "\x00"}}
	wantTree(t, "sizes", wantBuild(t, "sizes", long, 1), lone(whole(nil, put(longKey, longValue), put("\x00", ""))))
	// A Chain that is full is put together ahead of the next change.
	many := manyEntries(impl.MaxChain + 1)
	tree := wantBuild(t, "one more than MaxChain", many, 1)
	wantPage(t, "one more than MaxChain", tree.Pages[0], whole(many[:impl.MaxChain], put(many[impl.MaxChain].Key, many[impl.MaxChain].Value)))
	// The 33rd splits: its page was put together, so the split is its first change.
	many = manyEntries(impl.MaxBase + 1)
	tree = wantBuild(t, "one more than MaxBase", many, 2)
	wantTree(t, "one more than MaxBase", tree, impl.Tree{
		Pages: []impl.Page{
			{Right: -1, Base: many[:32], Chain: chain(split(many[16].Key, 1))},
			{Low: many[16].Key, Right: -1, Base: many[16:32], Chain: chain(put(many[32].Key, many[32].Value))},
		},
		Gone:  []bool{false, false},
		Index: []impl.Ref{{}, {Low: many[16].Key, Id: 1}},
	})
	wantBuild(t, "MaxBase", many[:impl.MaxBase], 1)
	wantBuild(t, "MaxBase, then keys again", slices.Concat(many[:impl.MaxBase], reversed(many[:impl.MaxBase]), many[5:9]), 1)
	// The key that does not fit goes into the lower page.
	tree = wantBuild(t, "falling at last", append(slices.Clone(many[1:]), many[0]), 2)
	wantPage(t, "falling at last", tree.Pages[0], whole(many[1:33], split(many[17].Key, 1), put(many[0].Key, "0")))
}

func TestBuildTreeOfMany(t *testing.T) {
	for _, n := range []int{40, 48, 49, 200, mostRising} {
		pages := 1
		if n > impl.MaxBase {
			pages = (n-impl.MaxBase+15)/16 + 1
		}
		rising := manyEntries(n)
		wantBuild(t, "rising", rising, pages)
		wantBuild(t, "falling", reversed(rising), pages)
		again := slices.Clone(rising)
		for i := range again {
			again[i].Value = "again " + strconv.Itoa(i)
		}
		wantBuild(t, "rising, then again", slices.Concat(rising, again), pages)
	}
	for _, n := range []int{100, 300, 600} {
		for _, step := range []int{7, 77} {
			list := shuffled(manyEntries(n), step)
			want, code := plainBuild(list)
			tree, got := impl.BuildTree(list)
			if got != code {
				t.Fatalf("%d mixed: code %d, want %d", n, got, code)
			}
			wantTree(t, "mixed", tree, want)
			if code == impl.OK {
				wantBuild(t, "mixed", list, len(want.Pages))
			}
		}
	}
}

func TestBuildTreeWithoutRoom(t *testing.T) {
	full := manyEntries(mostRising)
	last := full[mostRising-1]
	wantNoBuild(t, "one more, rising", append(slices.Clone(full), impl.Entry{Key: "z"}), impl.ErrFull)
	wantNoBuild(t, "one more, falling", append(reversed(full), impl.Entry{Key: "a"}), impl.ErrFull)
	wantNoBuild(t, "many more", manyEntries(mostRising+100), impl.ErrFull)
	// The last key again, or one of a page that is not full, still has room.
	wantBuild(t, "a key again", append(slices.Clone(full), impl.Entry{Key: last.Key, Value: "new"}), impl.MaxPages)
	wantBuild(t, "a key of another page", append(slices.Clone(full), impl.Entry{Key: "a"}), impl.MaxPages)
	var more []impl.Entry
	for i := range 16 {
		more = append(more, impl.Entry{Key: "a" + strconv.Itoa(10+i)})
	}
	wantBuild(t, "as many keys of another page", slices.Concat(full, more), impl.MaxPages)
	wantNoBuild(t, "one more of another page", slices.Concat(full, more, entriesOf("b=")), impl.ErrFull)
}

func TestBuildTreeOfWrongEntries(t *testing.T) {
	full := manyEntries(mostRising + 1)
	for name, bad := range map[string]impl.Entry{
		"zero":                      {},
		"no key":                    {Key: "", Value: "x"},
		"a key that is too long":    {Key: tooLongKey, Value: "x"},
		"a value that is too long":  {Key: "a", Value: tooLong},
		"both":                      {Key: "", Value: tooLong},
		"a key of MaxText and more": {Key: strings.Repeat("k", impl.MaxText+1)},
		"a value of MaxText":        {Key: "a", Value: strings.Repeat("v", impl.MaxText)},
	} {
		one := []impl.Entry{bad}
		wantNoBuild(t, name, one, impl.ErrBad)
		wantNoBuild(t, name+", first", append(one, entriesOf("a=1", "b=2")...), impl.ErrBad)
		wantNoBuild(t, name+", last", append(entriesOf("a=1", "b=2"), bad), impl.ErrBad)
		// What is not right comes ahead of what does not fit, wherever it stands.
		wantNoBuild(t, name+", ahead of one that does not fit", append(one, full...), impl.ErrBad)
		wantNoBuild(t, name+", just ahead of one that does not fit", slices.Insert(slices.Clone(full), mostRising, bad), impl.ErrBad)
		wantNoBuild(t, name+", behind one that does not fit", append(slices.Clone(full), bad), impl.ErrBad)
		wantNoBuild(t, name+", MaxList", append(slices.Repeat(entriesOf("a=1"), impl.MaxList-1), bad), impl.ErrBad)
		wantNoBuild(t, name+", more than MaxList", append(slices.Repeat(entriesOf("a=1"), impl.MaxList), bad), impl.ErrLong)
	}
	same := slices.Repeat(entriesOf("a=1"), impl.MaxList+1)
	tree, code := impl.BuildTree(same[:impl.MaxList])
	if list, _ := impl.TreeScan(tree, "", ""); code != impl.OK || len(tree.Pages) != 1 || !slices.Equal(list, entriesOf("a=1")) {
		t.Errorf("MaxList entries of one key: %d pages, code %d", len(tree.Pages), code)
	}
	wantNoBuild(t, "more than MaxList", same, impl.ErrLong)
	var long []impl.Entry
	for i := range impl.MaxList {
		long = append(long, impl.Entry{Key: "k" + strconv.Itoa(10000+i)})
	}
	wantNoBuild(t, "MaxList entries of other keys", long, impl.ErrFull)
}

// A tree of an engine's entries has what the engine has.
func TestBuildTreeOfAnEngine(t *testing.T) {
	next := numbers(101)
	for range 50 {
		e, _ := engineRun(t, someScript(next, impl.MaxScript-1), enClean())
		list, _ := impl.EntriesAt(e.Versions.List, impl.MaxId)
		tree, code := impl.BuildTree(list)
		if code != impl.OK {
			t.Fatalf("BuildTree of %d entries has code %d", len(list), code)
		}
		wantTreeScan(t, "an engine", tree, "", "", list)
	}
}
