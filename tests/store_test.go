package tests

import (
	"bytes"
	"slices"
	"strconv"
	"testing"

	"loop.example/g00163/impl"
)

func TestStoreFromNothingOn(t *testing.T) {
	f := impl.Flash{}
	list := someImages()
	for i, x := range list {
		f = stored(t, f, x)
		what := "behind image " + strconv.Itoa(i)
		wantBytes(t, what, f.Held, joined(rawOf(list[:i+1]...)))
		wantScan(t, what, f.Held, placesOf(list)[i+1], list[:i+1]...)
	}
}

func TestEveryRightImageIsStored(t *testing.T) {
	for i, x := range rightImages() {
		f := stored(t, stored(t, impl.Flash{}, hereImage(500, "ahead")), x, hereImage(501, "behind"))
		wantBytes(t, "image "+strconv.Itoa(i), f.Held, joined(rawOf(hereImage(500, "ahead"), x, hereImage(501, "behind"))))
	}
}

func TestStoreAtTheFirstPlaceWithoutAnImage(t *testing.T) {
	first, second, third := hereImage(1, "first"), hereImage(2, "second"), hereImage(3, "third")
	torn := rawOf(first)
	torn[len(torn)-1] ^= 1
	for _, c := range []struct {
		name string
		f    impl.Flash
		want []byte
	}{
		{"nothing", impl.Flash{}, joined(rawOf(third))},
		{"a sector of noughts", impl.Flash{Held: noughts(1)}, joined(rawOf(third))},
		{"noughts up to the end", impl.Flash{Held: noughts(128)}, joined(rawOf(third), noughts(127))},
		{"noughts behind images", impl.Flash{Held: joined(rawOf(first, second), noughts(3))}, joined(rawOf(first, second, third), noughts(2))},
		{"other bytes stay behind it", impl.Flash{Held: bytes.Repeat([]byte{7}, 32)}, append(rawOf(third), bytes.Repeat([]byte{7}, 18)...)},
		{"other bytes up to the end", impl.Flash{Held: bytes.Repeat([]byte{7}, flashSize)}, append(rawOf(third), bytes.Repeat([]byte{7}, flashSize-14)...)},
		{"over one with a wrong sum", holding(torn...), joined(rawOf(third))},
		{"over one that is cut", holding(rawOf(first, second)[:20]...), joined(rawOf(first, third))},
		{"over one with a wrong Id", holding(rawImage(1, impl.MaxId+1, 5, "right")...), joined(rawOf(third))},
		// The one behind stands again: no more than the bytes of the image is written.
		{"over one ahead of another", holding(append(torn, rawOf(second)...)...), joined(rawOf(third, second))},
		{"not over one ahead of another", holding(slices.Concat(torn, make([]byte, 5), rawOf(second))...), joined(slices.Concat(rawOf(third), make([]byte, 5), rawOf(second)))},
	} {
		wantBytes(t, c.name, stored(t, c.f, third).Held, c.want)
	}
}

func TestStoreWithSectorsThatWait(t *testing.T) {
	first, second, third := hereImage(1, "first"), hereImage(2, "the second of them"), hereImage(3, "third")
	two := rawOf(first, second)
	for _, c := range []struct {
		name string
		f    impl.Flash
		want []byte
	}{
		{"all wait", impl.Flash{Waiting: waitingOf(0, two)}, joined(rawOf(first, second, third))},
		{"some wait", impl.Flash{Held: joined(two)[:16], Waiting: waitingOf(1, joined(two)[16:])}, joined(rawOf(first, second, third))},
		{"others wait over what is held", impl.Flash{Held: joined(rawOf(third)), Waiting: waitingOf(0, two)}, joined(rawOf(first, second, third))},
		{"noughts wait over what is held", impl.Flash{Held: joined(two), Waiting: waitingOf(0, noughts(3))}, joined(rawOf(third), noughts(2))},
		{"one waits where nothing is", impl.Flash{Held: joined(two), Waiting: waitingOf(9, pattern(1, 16))}, joined(rawOf(first, second, third), noughts(5), pattern(1, 16))},
		{"one waits where the image comes", impl.Flash{Held: joined(rawOf(first)), Waiting: waitingOf(1, pattern(2, 16))}, append(rawOf(first, third), joined(rawOf(first), pattern(2, 16))[28:]...)},
	} {
		f := stored(t, c.f, third)
		wantBytes(t, c.name, f.Held, c.want)
	}
}

// As many as may wait leave an image its room: what waits is synced with it.
func TestStoreWhereAsManyWaitAsThereMayBe(t *testing.T) {
	first, second := sizedImage(4, impl.MaxImage), sizedImage(5, impl.MaxImage)
	f := impl.Flash{Waiting: slices.Repeat(waitingOf(0, rawOf(first)), 64)}
	if len(f.Waiting) != impl.MaxList {
		t.Fatalf("%d wait", len(f.Waiting))
	}
	wantBytes(t, "MaxList wait", stored(t, f, second).Held, joined(rawOf(first, second)))
}

func TestStoreUpToTheLastByte(t *testing.T) {
	two := []impl.Image{sizedImage(1, impl.MaxImage), sizedImage(2, impl.MaxImage)}
	left := flashSize - len(rawOf(two...))
	f := stored(t, impl.Flash{}, two...)
	for size := range impl.MaxImage + 1 {
		x := sizedImage(3, size)
		if smallImage+size > left {
			wantNoStore(t, strconv.Itoa(size)+" bytes", f, x, impl.ErrFull)
			continue
		}
		wantBytes(t, strconv.Itoa(size)+" bytes", stored(t, f, x).Held, joined(rawOf(two[0], two[1], x)))
	}
	for spare := range 2 * smallImage {
		third := sizedImage(3, left-smallImage-spare)
		g := stored(t, f, third)
		for _, x := range []impl.Image{{}, goneImage(3)} {
			what := strconv.Itoa(spare) + " bytes are left"
			if spare < smallImage {
				wantNoStore(t, what, g, x, impl.ErrFull)
			} else {
				wantBytes(t, what, stored(t, g, x).Held, joined(rawOf(two[0], two[1], third, x)))
			}
		}
	}
	full := stored(t, f, sizedImage(3, left-smallImage))
	wantImages(t, "full", latest(t, full), append(two, sizedImage(3, left-smallImage)))
	for i, x := range rightImages() {
		wantNoStore(t, "full, image "+strconv.Itoa(i), full, x, impl.ErrFull)
	}
	waiting := impl.Flash{Waiting: waitingOf(0, full.Held)}
	wantNoStore(t, "full of what waits", waiting, goneImage(1), impl.ErrFull)
	wantBytes(t, "full, cleaned", cleaned(t, full).Held, full.Held)
}

// A device of images without Data is full when fewer bytes are left than one has.
func TestStoreAsManyAsThereIsRoomFor(t *testing.T) {
	var f impl.Flash
	for i := range flashSize / smallImage {
		f = stored(t, f, goneImage(i))
	}
	wantNoStore(t, "small ones", f, goneImage(0), impl.ErrFull)
	wantImages(t, "small ones", latest(t, f), nil)
	wantBytes(t, "small ones, cleaned", cleaned(t, f).Held, nil)
}

func TestCodesOfStoreLatestAndClean(t *testing.T) {
	full := impl.Flash{Held: rawOf(sizedImage(1, 1000), sizedImage(2, 1000), sizedImage(3, 21))}
	wantNoStore(t, "full", full, goneImage(1), impl.ErrFull)
	for i, x := range wrongImages() {
		what := "wrong image " + strconv.Itoa(i)
		wantNoStore(t, what, impl.Flash{}, x, impl.ErrBad)
		wantNoStore(t, what+" on a full device", full, x, impl.ErrBad)
		wantNoStore(t, what+" on a wrong device", impl.Flash{Held: make([]byte, 1)}, x, impl.ErrBad)
	}
	for i, f := range wrongDevices() {
		what := "wrong device " + strconv.Itoa(i)
		wantNoStore(t, what, f, hereImage(1, "a"), impl.ErrBad)
		wantNoStore(t, what, f, sizedImage(1, impl.MaxImage), impl.ErrBad)
		wantNoStore(t, what, f, hereImage(-1, "a"), impl.ErrBad)
		if list, code := impl.Latest(f); len(list) != 0 || code != impl.ErrBad {
			t.Errorf("%s: Latest has %d images, code %d", what, len(list), code)
		}
		if g, code := impl.Clean(f); !sameFlash(g, impl.Flash{}) || code != impl.ErrBad {
			t.Errorf("%s: Clean has code %d", what, code)
		}
	}
}

func TestLatestAndClean(t *testing.T) {
	a, b, c := hereImage(1, "a"), hereImage(1, "other"), hereImage(1, "")
	low, high := hereImage(0, "low"), hereImage(impl.MaxId, "high")
	for _, x := range []struct {
		name string
		list []impl.Image
		want []impl.Image
	}{
		{"nothing", nil, nil},
		{"one", []impl.Image{a}, []impl.Image{a}},
		{"one without Data", []impl.Image{c}, []impl.Image{c}},
		{"stored again", []impl.Image{a, b}, []impl.Image{b}},
		{"stored again as it was first", []impl.Image{a, b, a}, []impl.Image{a}},
		{"stored again without Data", []impl.Image{a, c}, []impl.Image{c}},
		{"alike twice", []impl.Image{a, a}, []impl.Image{a}},
		{"Gone", []impl.Image{a, goneImage(1)}, nil},
		{"Gone twice", []impl.Image{a, goneImage(1), goneImage(1)}, nil},
		{"Gone and never there", []impl.Image{goneImage(1)}, nil},
		{"another is Gone and never there", []impl.Image{goneImage(2), a, goneImage(0)}, []impl.Image{a}},
		{"Gone and stored again", []impl.Image{a, goneImage(1), b}, []impl.Image{b}},
		{"Gone, stored again, Gone", []impl.Image{a, goneImage(1), b, goneImage(1)}, nil},
		{"Gone first, then stored", []impl.Image{goneImage(1), a}, []impl.Image{a}},
		{"falling", []impl.Image{high, a, low}, []impl.Image{low, a, high}},
		{"the first stands last", []impl.Image{a, high, low, b}, []impl.Image{low, b, high}},
		{"the last ones are Gone", []impl.Image{a, low, high, goneImage(impl.MaxId), goneImage(0)}, []impl.Image{a}},
		{"none but Gone ones are left", []impl.Image{a, low, high, goneImage(impl.MaxId), goneImage(0), goneImage(1)}, nil},
		{"as bytes their numbers would rise otherwise", []impl.Image{hereImage(256, "x"), hereImage(255, "y"), hereImage(1000, "z"), hereImage(99, "")}, []impl.Image{hereImage(99, ""), hereImage(255, "y"), hereImage(256, "x"), hereImage(1000, "z")}},
	} {
		f := stored(t, impl.Flash{}, x.list...)
		all := rawOf(x.list...)
		for _, d := range []impl.Flash{
			f,
			{Held: joined(all, noughts(5))},
			{Held: joined(append(bytes.Clone(all), 3, 7, 7))},
			{Held: append(joined(all, noughts(1)), joined(rawOf(hereImage(1, "lost")))...)},
			{Waiting: waitingOf(0, all)},
			{Held: joined(rawOf(hereImage(1, "over"), hereImage(7, "over"))), Waiting: waitingOf(0, append(bytes.Clone(all), make([]byte, 40)...))},
		} {
			wantImages(t, x.name, latest(t, d), x.want)
			wantBytes(t, x.name+", cleaned", cleaned(t, d).Held, joined(rawOf(x.want...)))
		}
		clean := cleaned(t, f)
		wantImages(t, x.name+", cleaned", latest(t, clean), x.want)
		wantBytes(t, x.name+", cleaned again", cleaned(t, clean).Held, clean.Held)
	}
}

func TestLatestOfBytesThatAreTurnedOrCut(t *testing.T) {
	list := []impl.Image{hereImage(5, "five"), hereImage(2, "two"), hereImage(5, "again"), goneImage(2)}
	whole := joined(rawOf(list...))
	places := placesOf(list)
	want := [][]impl.Image{nil, {list[0]}, {list[1], list[0]}, {list[1], list[2]}, {list[2]}}
	count := 0
	for at := range rawOf(list...) {
		if at == places[count+1] {
			count++
		}
		turned := bytes.Clone(whole)
		turned[at] ^= 0x10
		cut := joined(whole[:at], make([]byte, len(whole)-at))
		for _, b := range [][]byte{turned, cut} {
			wantImages(t, "at byte "+strconv.Itoa(at), latest(t, impl.Flash{Held: b}), want[count])
			wantBytes(t, "at byte "+strconv.Itoa(at), cleaned(t, impl.Flash{Held: b}).Held, joined(rawOf(want[count]...)))
		}
	}
}

// A device that is full of one Id has room again behind a cleaning.
func TestCleaningMakesRoom(t *testing.T) {
	var f impl.Flash
	last := impl.Image{}
	for i := 0; ; i++ {
		x := impl.Image{Id: 4, Data: pattern(i, 200)}
		next, code := impl.Store(f, x)
		if code == impl.ErrFull {
			break
		}
		f, last = next, x
		if code != impl.OK || i > 99 {
			t.Fatalf("Store %d: code %d", i, code)
		}
	}
	f = stored(t, cleaned(t, f), sizedImage(3, 1000))
	wantImages(t, "cleaned, and one more", latest(t, f), []impl.Image{sizedImage(3, 1000), last})
}
