package tests

import (
	"cmp"
	"fmt"
	"slices"
	"strconv"
	"strings"
	"testing"

	"loop.example/g00163/impl"
)

// What follows goes the whole way: committed, synced, crashed, put into a tree,
// stored, cleaned and read back.

// recoveredEntries are the entries behind a crash: of the device that crashed,
// and of the engine that did.
func recoveredEntries(t *testing.T, acts []impl.EngineAct, crash impl.EngineAct) []impl.Entry {
	t.Helper()
	synced, _ := engineRun(t, acts, enSync())
	device, code := impl.FlashCrash(synced.Flash, crash.Keep, crash.Torn)
	if code != impl.OK {
		t.Fatalf("FlashCrash has code %d", code)
	}
	v, _, code := impl.Recover(device)
	if code != impl.OK {
		t.Fatalf("Recover has code %d", code)
	}
	entries, code := impl.EntriesAt(v.List, v.Next)
	if code != impl.OK {
		t.Fatalf("EntriesAt has code %d", code)
	}
	crashed, _ := engineRun(t, acts, enSync(), crash)
	wantVersions(t, "an engine that crashed", crashed.Versions, v)
	return entries
}

// pageImage is what stands of a page of a tree on a device.
func pageImage(t *testing.T, tree impl.Tree, id int) impl.Image {
	t.Helper()
	if tree.Gone[id] {
		return goneImage(id)
	}
	b, code := impl.PageBytes(tree.Pages[id])
	if code != impl.OK {
		t.Fatalf("PageBytes of page %d has code %d", id, code)
	}
	return impl.Image{Id: id, Data: b}
}

// storeCode is the code that there must be, by the sizes alone.
func storeCode(f impl.Flash, x impl.Image) int {
	p := plainFlash{f}
	_, at := plainScan(p.read().Held)
	switch {
	case len(x.Data) > impl.MaxImage:
		return impl.ErrBad
	case at+smallImage+len(x.Data) > flashSize:
		return impl.ErrFull
	}
	return impl.OK
}

// storedTree is a device with an image of each page behind those that stand
// there; the first code that is told ends it.
func storedTree(t *testing.T, f impl.Flash, tree impl.Tree) (impl.Flash, int) {
	t.Helper()
	for id := range tree.Pages {
		x := pageImage(t, tree, id)
		want := storeCode(f, x)
		next, code := impl.Store(f, x)
		if code != want {
			t.Fatalf("Store of page %d (%d bytes) has code %d, want %d", id, len(x.Data), code, want)
		}
		if code != impl.OK {
			return f, code
		}
		f = next
	}
	return f, impl.OK
}

// readTree is the tree of the images on a device: the pages that are not there
// are Gone, all others stand in the Index, or page 0 alone.
func readTree(t *testing.T, f impl.Flash, pages int, posted bool) impl.Tree {
	t.Helper()
	tree := impl.Tree{}
	for range pages {
		tree.Pages = append(tree.Pages, impl.Page{Right: -1})
		tree.Gone = append(tree.Gone, true)
	}
	for _, x := range latest(t, f) {
		p, code := impl.ReadPage(x.Data)
		if code != impl.OK {
			t.Fatalf("ReadPage of page %d has code %d", x.Id, code)
		}
		tree.Pages[x.Id], tree.Gone[x.Id] = p, false
		if posted || x.Id == 0 {
			tree.Index = append(tree.Index, impl.Ref{Low: p.Low, Id: x.Id})
		}
	}
	slices.SortFunc(tree.Index, func(a, b impl.Ref) int { return cmp.Compare(a.Low, b.Low) })
	return tree
}

// wantBack asks that a tree that stands on a device is read back, cleaned and not.
func wantBack(t *testing.T, what string, f impl.Flash, tree impl.Tree, want []impl.Entry) impl.Flash {
	t.Helper()
	clean := cleaned(t, f)
	for _, device := range []impl.Flash{f, clean, cleaned(t, clean)} {
		for _, posted := range []bool{true, false} {
			back := readTree(t, device, len(tree.Pages), posted)
			if !impl.TreeOK(back) {
				t.Fatalf("%s: the tree that is read back is not right", what)
			}
			wantTreeScan(t, what, back, "", "", want)
			for _, e := range want {
				if value, _, code := impl.TreeGet(back, e.Key); value != e.Value || code != impl.OK {
					t.Errorf("%s: of %q is read back %q with code %d, want %q", what, e.Key, value, code, e.Value)
				}
			}
			back.Index = tree.Index
			wantTree(t, what, back, tree)
		}
	}
	if len(clean.Held) > len(f.Held) {
		t.Errorf("%s: %d bytes are held, cleaned %d", what, len(f.Held), len(clean.Held))
	}
	return clean
}

// consolidated is a tree with each page put together.
func consolidated(t *testing.T, tree impl.Tree) impl.Tree {
	t.Helper()
	for id := range tree.Pages {
		tree = stepped(t, tree, treeAct(impl.TrConsolidate, id))
	}
	return tree
}

// wantWholeWay goes the whole way, and tells with which code it ended.
func wantWholeWay(t *testing.T, what string, want []impl.Entry, crash impl.EngineAct, list ...any) int {
	t.Helper()
	entries := recoveredEntries(t, script(list...), crash)
	if !slices.Equal(entries, want) {
		t.Fatalf("%s: %v is recovered, want %v", what, entries, want)
	}
	tree, code := impl.BuildTree(entries)
	if code != impl.OK {
		t.Fatalf("%s: BuildTree of %d entries has code %d", what, len(entries), code)
	}
	wantTreeScan(t, what, tree, "", "", want)
	f, code := storedTree(t, impl.Flash{}, tree)
	if code != impl.OK {
		return code
	}
	f = wantBack(t, what, f, tree, want)
	// Once more over it, put together: the later images count.
	whole := consolidated(t, tree)
	if f, code = storedTree(t, f, whole); code == impl.OK {
		wantBack(t, what+", put together", f, whole, want)
	}
	return impl.OK
}

// entryActs are sessions that commit entries, some in each, in the order of the list.
func entryActs(list []impl.Entry, each int) []impl.EngineAct {
	var acts []impl.EngineAct
	for some := range slices.Chunk(list, each) {
		var writes []string
		for _, e := range some {
			writes = append(writes, e.Key+"="+e.Value)
		}
		acts = append(acts, commits(len(acts)%impl.MaxSessions, writes...)...)
	}
	return acts
}

// keyRun are n entries with keys and values of some sizes, rising.
func keyRun(n, key, value int) []impl.Entry {
	var list []impl.Entry
	for i := range n {
		list = append(list, impl.Entry{Key: strings.Repeat("k", key-3) + strconv.Itoa(100+i), Value: strings.Repeat(string(rune('a'+i%26)), value)})
	}
	return list
}

func crashesToTry() []impl.EngineAct {
	return []impl.EngineAct{enCrash(0), enCrash(16), enCrash(7, true, false, true), enCrash(0, flags(200, true)...), enCrash(16, flags(impl.MaxList, true)...)}
}

func TestTheWholeWay(t *testing.T) {
	for _, crash := range crashesToTry() {
		for _, c := range []struct {
			name string
			acts []impl.EngineAct
			want []impl.Entry
		}{
			{"nothing", nil, nil},
			{"a commit without writes", commits(0), nil},
			{"one entry", commits(0, "a=1"), entriesOf("a=1")},
			{"an entry without a value", commits(0, "a="), entriesOf("a=")},
			{"several", commits(0, "b=2", "a=1", "c=3"), entriesOf("a=1", "b=2", "c=3")},
			{"the last one counts", script(commits(0, "a=1", "b=1"), commits(1, "a=2"), commits(2, "a=3")), entriesOf("a=3", "b=1")},
			{"dropped", script(commits(0, "a=1", "b=1"), commits(1, "a")), entriesOf("b=1")},
			{"dropped and put again", script(commits(0, "a=1"), commits(1, "a"), commits(0, "a=2")), entriesOf("a=2")},
			{"all dropped", script(commits(0, "a=1", "b=1"), commits(1, "a", "b")), nil},
			{"a later time commits first", script(txBegin(0), txBegin(1), txPut(0, "a", "0"), txPut(1, "b", "1"), txCommit(1), txCommit(0)), entriesOf("a=0", "b=1")},
			{"a conflict", script(txBegin(0), txBegin(1), txPut(0, "a", "0"), txPut(1, "a", "1"), txCommit(1), txCommit(0)), entriesOf("a=1")},
			{"an abort, and one that is open", script(commits(0, "a=1"), txBegin(0), txPut(0, "a", "2"), txAbort(0), txBegin(1), txPut(1, "b", "2")), entriesOf("a=1")},
			{"a clean between", script(commits(0, "a=1", "b=1"), commits(1, "a"), enClean(), commits(2, "c=2")), entriesOf("b=1", "c=2")},
			{"lost ahead of a crash between", script(commits(0, "a=1"), enSync(), commits(1, "b=2"), enCrash(0), commits(2, "c=3")), entriesOf("a=1", "c=3")},
			{"the greatest sizes", commits(0, longKey+"="+longValue, "\x00=\xff"), []impl.Entry{{Key: "\x00", Value: "\xff"}, {Key: longKey, Value: longValue}}},
			{"any bytes", commits(0, "\x00= ", "\xff\n=\n", " ==", "a="), []impl.Entry{{Key: "\x00", Value: " "}, {Key: " ", Value: "="}, {Key: "a"}, {Key: "\xff\n", Value: "\n"}}},
			{"a page that is full", entryActs(keyRun(impl.MaxBase, 4, 2), impl.MaxWrites), keyRun(impl.MaxBase, 4, 2)},
			{"two pages", entryActs(keyRun(impl.MaxBase+1, 4, 2), impl.MaxWrites), keyRun(impl.MaxBase+1, 4, 2)},
			{"two pages, falling", entryActs(reversed(keyRun(impl.MaxBase+1, 4, 2)), impl.MaxWrites), keyRun(impl.MaxBase+1, 4, 2)},
			{"many pages", entryActs(keyRun(100, 4, 2), impl.MaxWrites), keyRun(100, 4, 2)},
			{"many pages, mixed", entryActs(shuffled(keyRun(100, 4, 2), 37), impl.MaxWrites), keyRun(100, 4, 2)},
		} {
			if code := wantWholeWay(t, c.name, c.want, crash, c.acts); code != impl.OK {
				t.Errorf("%s: the way ends with code %d", c.name, code)
			}
		}
	}
}

// Where the device has no room, or a page has too many bytes for an image, the
// step that stores it tells so.
func TestTheWayEndsWithACode(t *testing.T) {
	for _, c := range []struct {
		name       string
		n, each    int
		key, value int
		want       int
	}{
		{"one page with room", 8, 4, 40, 70, impl.OK},
		{"one page that is too great for an image", 8, 4, 40, 90, impl.ErrBad},
		{"a full page that is too great for an image", 32, 8, 20, 10, impl.ErrBad},
		{"pages that have no room", 100, 8, 8, 6, impl.ErrFull},
		{"pages that have room", 60, 8, 8, 6, impl.OK},
	} {
		list := keyRun(c.n, c.key, c.value)
		if code := wantWholeWay(t, c.name, list, enCrash(3, true), entryActs(list, c.each)); code != c.want {
			t.Errorf("%s: the way ends with code %d, want %d", c.name, code, c.want)
		}
	}
	// Just as many bytes as an image may have, and one more.
	for more := range 2 {
		list := keyRun(8, 40, 80)
		// Low, High, Right and two counts have 6 bytes, a change has 5 beside its texts.
		left := impl.MaxImage - 6 - 7*(5+40+80) - 5
		list[7].Value = strings.Repeat("v", left-40+more)
		code := wantWholeWay(t, "the most bytes", list, enCrash(0), entryActs(list, 4))
		if want := []int{impl.OK, impl.ErrBad}[more]; code != want {
			t.Errorf("%d bytes more than an image has: code %d, want %d", more, code, want)
		}
	}
}

// A commit that has no room in the log tells so, and does not go the way; all
// that was committed ahead of it does.
func TestTheWayOfACommitWithoutRoom(t *testing.T) {
	for name, c := range map[string]struct {
		before, last []impl.EngineAct
		want, count  int
	}{
		"too many bytes": {commits(0, "a=1", "b=2"), sizedCommit(1, "c", impl.MaxImage+1), impl.OK, 2},
		"no room":        {fullBut(20), sizedCommit(1, "c", 12), impl.ErrBad, 15},
	} {
		if reply := lastReply(t, c.before, c.last); reply.Code != impl.ErrFull {
			t.Fatalf("%s: the last commit has code %d", name, reply.Code)
		}
		without := recoveredEntries(t, c.before, enCrash(0))
		if len(without) != c.count {
			t.Errorf("%s: %d entries are there, want %d", name, len(without), c.count)
		}
		if code := wantWholeWay(t, name, without, enCrash(0), c.before, c.last); code != c.want {
			t.Errorf("%s: the way ends with code %d, want %d", name, code, c.want)
		}
	}
}

// A device that is full of earlier pages takes the later ones once it is cleaned.
func TestTheWayOverAndOverAgain(t *testing.T) {
	f := impl.Flash{}
	var acts []impl.EngineAct
	full := 0
	for round := range 12 {
		for i := range 2 {
			key := "k" + strconv.Itoa(10+(round*2+i)%9)
			acts = append(acts, commits(i, key+"="+strconv.Itoa(round), "round="+strconv.Itoa(round), "k"+strconv.Itoa(10+(round+i)%7))...)
		}
		want := plainVersionEntries(plainRunOf(acts).Versions.List, impl.MaxId)
		entries := recoveredEntries(t, acts, enCrash(round))
		if !slices.Equal(entries, want) {
			t.Fatalf("round %d: %v is recovered, want %v", round, entries, want)
		}
		tree, _ := impl.BuildTree(entries)
		// Bytes that only make the image greater: the device is full sooner.
		for i := range 3 {
			tree = stepped(t, tree, treePut("filler"+strconv.Itoa(i), longValue), treeDrop("filler"+strconv.Itoa(i)))
		}
		next, code := storedTree(t, f, tree)
		if code == impl.ErrFull {
			full++
			next, code = storedTree(t, cleaned(t, f), tree)
		}
		if code != impl.OK {
			t.Fatalf("round %d: the way ends with code %d", round, code)
		}
		wantBack(t, "round "+strconv.Itoa(round), next, tree, want)
		f = next
	}
	if full < 2 {
		t.Errorf("the device was full %d times", full)
	}
}

func plainRunOf(acts []impl.EngineAct) impl.Engine {
	e, _, _ := plainEngineRun(acts)
	return e
}

// Pages that are merged away are Gone on the device too, whatever was stored ahead.
func TestTheWayOfATreeThatIsMerged(t *testing.T) {
	list := keyRun(60, 4, 1)
	entries := recoveredEntries(t, entryActs(list, impl.MaxWrites), enCrash(0))
	tree, code := impl.BuildTree(entries)
	if code != impl.OK || len(tree.Pages) != 3 {
		t.Fatalf("BuildTree has %d pages and code %d", len(tree.Pages), code)
	}
	f, code := storedTree(t, impl.Flash{}, tree)
	if code != impl.OK {
		t.Fatalf("the tree is stored with code %d", code)
	}
	wantBack(t, "ahead", f, tree, list)
	// Most of its keys go, then its pages.
	var left []impl.Entry
	for i, e := range list {
		if i%5 == 0 {
			left = append(left, e)
			continue
		}
		tree = stepped(t, tree, treeDrop(e.Key))
	}
	for {
		next, gone, code := impl.TreeStep(tree, treeAct(impl.TrMerge, 0))
		if code != impl.OK {
			break
		}
		tree = next
		if f, code = impl.Store(cleaned(t, f), goneImage(gone)); code != impl.OK {
			t.Fatalf("a page that is Gone is stored with code %d", code)
		}
		if f, code = storedTree(t, f, tree); code != impl.OK {
			t.Fatalf("the merged tree is stored with code %d", code)
		}
		clean := wantBack(t, "merged", f, tree, left)
		if images := latest(t, clean); len(images) != len(tree.Pages)-count(tree.Gone) {
			t.Errorf("%d images are left of %d pages, %d Gone", len(images), len(tree.Pages), count(tree.Gone))
		}
	}
	if count(tree.Gone) != 2 {
		t.Errorf("%d pages are Gone", count(tree.Gone))
	}
}

func count(flags []bool) int {
	n := 0
	for _, flag := range flags {
		if flag {
			n++
		}
	}
	return n
}

// Runs as they come go the whole way, too.
func TestTheWholeWayOfAnyRun(t *testing.T) {
	next := numbers(157)
	seen := map[int]int{}
	for range 150 {
		acts := someScript(next, int(20+next()%125))
		want := plainVersionEntries(plainRunOf(acts).Versions.List, impl.MaxId)
		seen[wantWholeWay(t, "a run", want, enCrash(int(next()%17), someFlags(next)...), acts)]++
		if t.Failed() {
			t.FailNow()
		}
	}
	if seen[impl.OK] < 50 || seen[impl.ErrBad] < 3 {
		t.Errorf("the ways ended with codes %v", seen)
	}
}

// The same way told to a console: what it shows and scans behind the crash is
// what was committed, and what is read back of the tree.
func TestTheWholeWayOfAConsole(t *testing.T) {
	list := shuffled(keyRun(50, 4, 2), 7)
	acts := script(entryActs(list, impl.MaxWrites), enSync(), commits(0, "lost=1"), enCrash(0), txBegin(3), txScan(3, "", ""))
	text := ""
	for _, a := range acts {
		line, _ := actLine(a)
		text += line + "\n"
	}
	said := saidTo(t, text+"abort 3\nclean\nshow\n")
	want := plainEntryLines(keyRun(50, 4, 2))
	if !strings.Contains(said, fmt.Sprintf("ok 8\n%sentries 50\nok\nok\n%snext 9 ", want, want)) {
		t.Errorf("said is %q", said)
	}
	if code := wantWholeWay(t, "a console", keyRun(50, 4, 2), enCrash(0), acts); code != impl.OK {
		t.Errorf("the way ends with code %d", code)
	}
}
