package tests

import (
	"bytes"
	"slices"
	"strings"
	"testing"

	"loop.example/g00163/impl"
)

func wantRecover(t *testing.T, what string, f impl.Flash, count, next int, list ...impl.Version) {
	t.Helper()
	v, n, code := impl.Recover(f)
	if n != count || code != impl.OK {
		t.Errorf("%s: Recover has %d images and code %d, want %d", what, n, code, count)
	}
	wantVersions(t, what, v, storeOf(next, list, nil))
	if !impl.VersionsOK(v) {
		t.Errorf("%s: what is recovered is not right", what)
	}
}

func wantNoRecover(t *testing.T, what string, f impl.Flash, want int) {
	t.Helper()
	if v, n, code := impl.Recover(f); code != want || n != 0 || !alike(v, impl.Versions{}) {
		t.Errorf("%s: Recover has %d images and code %d, want code %d", what, n, code, want)
	}
}

func TestRecoverOfADevice(t *testing.T) {
	for i, f := range wrongDevices() {
		wantNoRecover(t, "wrong device "+told([]any{i}), f, impl.ErrBad)
	}
	log := rawOf(commitOf(1, "a=1"), commitOf(2, "b=2"))
	for _, f := range []impl.Flash{
		{Held: log},
		{Held: joined(log), Waiting: []impl.Write{{At: impl.MaxSectors, Data: noughts(1)}}},
		{Held: joined(log), Waiting: []impl.Write{{At: 0}}},
	} {
		wantNoRecover(t, "a log on a device that is not right", f, impl.ErrBad)
	}
	for i, f := range rightDevices() {
		wantRecover(t, "right device "+told([]any{i}), f, 0, 1)
	}
	wantRecover(t, "noughts", impl.Flash{Held: noughts(impl.MaxSectors)}, 0, 1)
	a, b := version("a", 1, "1"), version("b", 2, "2")
	whole := joined(log)
	wantRecover(t, "held", impl.Flash{Held: whole}, 2, 3, a, b)
	wantRecover(t, "held, noughts behind", impl.Flash{Held: joined(log, noughts(9))}, 2, 3, a, b)
	wantRecover(t, "all waits", impl.Flash{Waiting: waitingOf(0, log)}, 2, 3, a, b)
	wantRecover(t, "all waits, the last sector first", impl.Flash{Waiting: []impl.Write{{At: 1, Data: whole[16:]}, {At: 0, Data: whole[:16]}}}, 2, 3, a, b)
	wantRecover(t, "the end waits", impl.Flash{Held: whole[:16], Waiting: waitingOf(1, whole[16:])}, 2, 3, a, b)
	wantRecover(t, "the end does not wait", impl.Flash{Held: whole[:16]}, 1, 2, a)
	wantRecover(t, "noughts wait over the end", impl.Flash{Held: whole, Waiting: waitingOf(1, noughts(1))}, 1, 2, a)
	wantRecover(t, "noughts wait over all", impl.Flash{Held: whole, Waiting: waitingOf(0, noughts(2))}, 0, 1)
	wantRecover(t, "the last that waits counts", impl.Flash{Held: whole, Waiting: slices.Concat(waitingOf(0, noughts(2)), waitingOf(0, whole))}, 2, 3, a, b)
	wantRecover(t, "behind a nought", holding(append([]byte{0}, log...)...), 0, 1)
	var full []byte
	for id := 1; len(full)+smallImage <= flashSize; id++ {
		full = append(full, rawOf(commitOf(id))...)
	}
	wantRecover(t, "as many as there may be", impl.Flash{Held: joined(full)}, flashSize/smallImage, 1+flashSize/smallImage)
}

// What stands behind the first image that makes nothing does not count.
func TestImagesThatMakeNothing(t *testing.T) {
	a, b := commitOf(3, "a=1"), commitOf(7, "b=2")
	have, both := version("a", 3, "1"), version("b", 7, "2")
	for name, bad := range map[string]impl.Image{
		"Gone":                       goneImage(5),
		"Gone, of an Id that was":    goneImage(3),
		"Gone, Id 0":                 goneImage(0),
		"Gone, Id MaxId":             goneImage(impl.MaxId),
		"no commit's Data":           hereImage(5, "x"),
		"Data that are cut":          hereImage(5, "\x01\x01c\x01"),
		"Data with a byte behind":    hereImage(5, "\x01\x01c\x00\x00"),
		"Data of a key twice":        hereImage(5, "\x01\x01c\x00\x01\x01c\x00"),
		"Data out of order":          hereImage(5, "\x01\x01d\x00\x01\x01c\x00"),
		"Data Gone with a value":     hereImage(5, "\x02\x01c\x01x"),
		"Data of too many writes":    {Id: 5, Data: plainBytes(manyWrites(impl.MaxWrites+1, 5))},
		"Data of a page":             {Id: 5, Data: rawPage(impl.Page{Right: -1})},
		"Data of MaxImage":           sizedImage(5, impl.MaxImage),
		"Id 0":                       commitOf(0, "c=3"),
		"Id 0, no writes":            commitOf(0),
		"Id MaxId":                   commitOf(impl.MaxId, "c=3"),
		"Id MaxId, no writes":        commitOf(impl.MaxId),
		"Id 0, and no commit's Data": hereImage(0, "x"),
	} {
		wantRecover(t, name+", alone", holding(rawOf(bad)...), 0, 1)
		wantRecover(t, name+", first", holding(rawOf(bad, a, b)...), 0, 1)
		wantRecover(t, name+", between", holding(rawOf(a, bad, b)...), 1, 4, have)
		wantRecover(t, name+", last", holding(rawOf(a, b, bad)...), 2, 8, have, both)
	}
	for name, again := range map[string]impl.Image{"an Id that was": commitOf(3, "c=3"), "an Id that was, no writes": commitOf(3), "all alike": a} {
		wantRecover(t, name+", next", holding(rawOf(a, again, b)...), 1, 4, have)
		wantRecover(t, name+", later", holding(rawOf(a, b, again, commitOf(9))...), 2, 8, have, both)
		wantRecover(t, name+", at first", holding(rawOf(a, again)...), 1, 4, have)
	}
	// Bytes that are no image end the log, too.
	raw := rawOf(a, b)
	for at := range raw {
		turned := bytes.Clone(raw)
		turned[at] ^= 0x10
		if at < len(rawOf(a)) {
			wantRecover(t, "a byte of the first is turned", holding(turned...), 0, 1)
		} else {
			wantRecover(t, "a byte of the second is turned", holding(turned...), 1, 4, have)
		}
	}
	for _, wrong := range wrongBytes() {
		if len(wrong) < flashSize/2 {
			wantRecover(t, "no image", holding(append(rawOf(a), wrong...)...), 1, 4, have)
		}
	}
}

func TestIdsOfALog(t *testing.T) {
	wantRecover(t, "Id 1", holding(rawOf(commitOf(1, "a=1"))...), 1, 2, version("a", 1, "1"))
	wantRecover(t, "Id MaxId - 1", holding(rawOf(commitOf(impl.MaxId-1, "a=1"))...), 1, impl.MaxId, version("a", impl.MaxId-1, "1"))
	wantRecover(t, "no writes", holding(rawOf(commitOf(5))...), 1, 6)
	wantRecover(t, "no writes at last", holding(rawOf(commitOf(5, "a=1"), commitOf(9))...), 2, 10, version("a", 5, "1"))
	wantRecover(t, "no writes at first", holding(rawOf(commitOf(9), commitOf(5, "a"))...), 2, 10, goneAt("a", 5))
	// In whatever order of Ids: List rises, Next is behind the greatest.
	images := []impl.Image{commitOf(2, "a=2", "m=x"), commitOf(9, "a=9"), commitOf(4, "a", "b=4"), commitOf(1, "a=1", "z")}
	list := versions(version("a", 1, "1"), version("a", 2, "2"), goneAt("a", 4), version("a", 9, "9"), version("b", 4, "4"), version("m", 2, "x"), goneAt("z", 1))
	for _, order := range [][]int{{0, 1, 2, 3}, {3, 2, 1, 0}, {1, 0, 3, 2}, {2, 3, 0, 1}, {3, 0, 2, 1}, {1, 3, 0, 2}} {
		var log []impl.Image
		for _, i := range order {
			log = append(log, images[i])
		}
		wantRecover(t, "an order of Ids", holding(rawOf(log...)...), 4, 10, list...)
	}
	wantRecover(t, "sizes", holding(rawOf(commitOf(4, "\x00", longKey+"="+longValue))...), 1, 5, goneAt("\x00", 4), version(longKey, 4, longValue))
	eight := commitOf(6)
	eight.Data = plainBytes(manyWrites(impl.MaxWrites, 6))
	wantRecover(t, "MaxWrites writes", holding(rawOf(eight)...), 1, 7, manyWrites(impl.MaxWrites, 6)...)
	long := strings.Repeat("v", impl.MaxValue)
	wantRecover(t, "much", holding(rawOf(commitOf(1, "a="+long, "b="+long, "c="+long), commitOf(2, "a", "b="+long), commitOf(3, "d="+long))...), 3, 4,
		version("a", 1, long), goneAt("a", 2), version("b", 1, long), version("b", 2, long), version("c", 1, long), version("d", 3, long))
}

// someLogImage is mostly a commit's with an Id that was not there yet.
func someLogImage(next func() uint64, id int) impl.Image {
	switch next() % 12 {
	case 0:
		return someImage(next)
	case 1:
		id = []int{0, 1, id - 1, impl.MaxId - 1, impl.MaxId}[next()%5]
	case 2:
		return goneImage(id)
	}
	return impl.Image{Id: max(id, 0), Data: plainBytes(someWrites(next, id))}
}

func TestRecoverAsTheDocumentSays(t *testing.T) {
	next := numbers(71)
	counts := map[int]int{}
	for range 2000 {
		var log []impl.Image
		ids := []int{1, 2, 3, 4, 5, 6, 7, 8}
		for range next() % 8 {
			at := int(next() % uint64(len(ids)))
			log = append(log, someLogImage(next, ids[at]))
			ids = slices.Delete(ids, at, at+1)
		}
		raw := rawOf(log...)
		if len(raw) > flashSize {
			continue
		}
		f := holding(raw...)
		if next()%2 == 0 {
			cut := int(next()%uint64(len(f.Held)/impl.SectorSize+1)) * impl.SectorSize
			f = impl.Flash{Held: f.Held[:cut], Waiting: waitingOf(cut/impl.SectorSize, f.Held[cut:])}
		}
		if next()%4 == 0 {
			f.Waiting = append(f.Waiting, waits(int(next()%9), int(next()%99)))
		}
		want, n, _ := plainRecover(f)
		wantRecover(t, "some log", f, n, want.Next, want.List...)
		if t.Failed() {
			t.Fatalf("%d images", len(log))
		}
		counts[n]++
	}
	for n := range 6 {
		if counts[n] < 20 {
			t.Errorf("%d images made it only %d times", n, counts[n])
		}
	}
}
