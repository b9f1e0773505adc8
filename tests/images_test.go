package tests

import (
	"bytes"
	"hash/crc32"
	"slices"
	"strconv"
	"strings"
	"testing"

	"loop.example/g00163/impl"
)

func TestImageConstants(t *testing.T) {
	if impl.MaxImage != 1000 || impl.MaxId != 1000 {
		t.Errorf("MaxImage %d, MaxId %d", impl.MaxImage, impl.MaxId)
	}
}

func TestSumsOfKnownTexts(t *testing.T) {
	for _, c := range []struct {
		text string
		want int
	}{
		{"", 0},
		{"\x00", 0xD202EF8D},
		{"\x00\x00\x00\x00", 0x2144DF1C},
		{"\xff", 0xFF000000},
		{"\xff\xff\xff\xff", 0xFFFFFFFF},
		{"a", 0xE8B7BE43},
		{"abc", 0x352441C2},
		{"123456789", 0xCBF43926},
		{"The quick brown fox jumps over the lazy dog", 0x414FA339},
	} {
		if got := impl.Crc([]byte(c.text)); got != c.want {
			t.Errorf("Crc(%q) = %x, want %x", c.text, got, c.want)
		}
	}
	if got := impl.Crc(nil); got != 0 {
		t.Errorf("Crc(nil) = %x", got)
	}
}

func TestSumsOfAllLengths(t *testing.T) {
	whole := pattern(1, impl.MaxText+2)
	for _, size := range []int{1, 2, 3, 8, 255, 256, 257, 1009, impl.MaxText - 1, impl.MaxText} {
		if got, want := impl.Crc(whole[:size]), int(crc32.ChecksumIEEE(whole[:size])); got != want || want == 0 {
			t.Errorf("Crc of %d bytes = %x, want %x", size, got, want)
		}
	}
	for _, size := range []int{impl.MaxText + 1, impl.MaxText + 2} {
		if got := impl.Crc(whole[:size]); got != 0 {
			t.Errorf("Crc of %d bytes = %x", size, got)
		}
	}
	for c := range 256 {
		if got, want := impl.Crc([]byte{byte(c)}), int(crc32.ChecksumIEEE([]byte{byte(c)})); got != want {
			t.Errorf("Crc of byte %d = %x, want %x", c, got, want)
		}
	}
}

func TestImageBytesOfTheDocument(t *testing.T) {
	for _, c := range []struct {
		x    impl.Image
		want string
	}{
		{impl.Image{}, "\x01\x00\x00\x00\x00\xfb\x42\xde\xad"},
		{goneImage(0), "\x02\x00\x00\x00\x00\xbc\xe2\xa4\x7d"},
		{hereImage(258, "xy"), "\x01\x01\x02\x00\x02xy\x47\x3c\xba\x07"},
		{goneImage(impl.MaxId), "\x02\x03\xe8\x00\x00\x09\xa6\x8a\x8b"},
	} {
		if got, code := impl.ImageBytes(c.x); string(got) != c.want || code != impl.OK {
			t.Errorf("ImageBytes of Id %d = %q, %d, want %q", c.x.Id, got, code, c.want)
		}
	}
}

func TestImageBytesOfRightAndWrongImages(t *testing.T) {
	for i, x := range rightImages() {
		got, code := impl.ImageBytes(x)
		if code != impl.OK {
			t.Errorf("right image %d: code %d", i, code)
		}
		wantBytes(t, "right image "+strconv.Itoa(i), got, rawOf(x))
		wantScan(t, "right image "+strconv.Itoa(i), got, smallImage+len(x.Data), x)
	}
	for i, x := range wrongImages() {
		if got, code := impl.ImageBytes(x); len(got) != 0 || code != impl.ErrBad {
			t.Errorf("wrong image %d (Id %d, %d bytes, Gone %v): %d bytes, code %d", i, x.Id, len(x.Data), x.Gone, len(got), code)
		}
	}
}

func TestEveryIdAndSizeIsReadBack(t *testing.T) {
	for n := range impl.MaxId + 1 {
		for _, x := range []impl.Image{hereImage(n, "a"), goneImage(n), sizedImage(impl.MaxId-n, n)} {
			b, code := impl.ImageBytes(x)
			if code != impl.OK || !bytes.Equal(b, rawOf(x)) {
				t.Fatalf("ImageBytes of Id %d, %d bytes: %q, %d", x.Id, len(x.Data), shorten(string(b)), code)
			}
			wantScan(t, "Id "+strconv.Itoa(x.Id), b, len(b), x)
		}
	}
}

func TestScanOfNothing(t *testing.T) {
	wantScan(t, "nil", nil, 0)
	wantScan(t, "no bytes", []byte{}, 0)
	for _, size := range []int{1, 4, 5, 8, 9, 10, 16, flashSize, impl.MaxText} {
		wantScan(t, strconv.Itoa(size)+" noughts", make([]byte, size), 0)
	}
}

// someImages are of each form, an Id among them twice.
func someImages() []impl.Image {
	return []impl.Image{
		hereImage(5, "five"), goneImage(5), hereImage(0, ""), hereImage(impl.MaxId, "\x01\x00\x00\x00\x00"), hereImage(5, "\x00"), goneImage(0), sizedImage(9, 260), hereImage(256, "last"),
	}
}

// placesOf are where images begin, and at last where they end.
func placesOf(list []impl.Image) []int {
	places := []int{0}
	for i := range list {
		places = append(places, len(rawOf(list[:i+1]...)))
	}
	return places
}

func TestScanOfSeveralImages(t *testing.T) {
	list := someImages()
	whole := rawOf(list...)
	for count, place := range placesOf(list) {
		wantScan(t, "alone", whole[:place:place], place, list[:count]...)
		for _, behind := range []string{"\x00", strings.Repeat("\x00", 40), "\x01", "\x03", "\xff\xff", "\x01\x00\x01\x00\x00", "\x02\x00\x01\x00\x00\x00\x00\x00\x00"} {
			b := append(bytes.Clone(whole[:place]), behind...)
			wantScan(t, "with others behind", b, place, list[:count]...)
			// What stands behind such a place is not looked for.
			wantScan(t, "with images behind these", append(b, whole...), place, list[:count]...)
		}
	}
}

func TestScanOfBytesThatAreCut(t *testing.T) {
	list := someImages()
	places := placesOf(list)
	whole := rawOf(list...)
	count := 0
	for end := range len(whole) + 1 {
		if count < len(list) && end == places[count+1] {
			count++
		}
		what := "cut at " + strconv.Itoa(end)
		wantScan(t, what, whole[:end], places[count], list[:count]...)
		wantScan(t, what+", noughts behind", append(bytes.Clone(whole[:end]), make([]byte, 999)...), places[count], list[:count]...)
	}
}

func TestScanOfABitThatIsTurned(t *testing.T) {
	list := someImages()
	places := placesOf(list)
	whole := rawOf(list...)
	count := 0
	for at := range whole {
		if at == places[count+1] {
			count++
		}
		for bit := range 8 {
			turned := bytes.Clone(whole)
			turned[at] ^= 1 << bit
			what := "bit " + strconv.Itoa(bit) + " of byte " + strconv.Itoa(at)
			wantScan(t, what, turned, places[count], list[:count]...)
		}
	}
}

func TestScanOfBytesThatNoRightImageHas(t *testing.T) {
	list := someImages()
	whole := rawOf(list...)
	for i, wrong := range wrongBytes() {
		what := "wrong bytes " + strconv.Itoa(i)
		wantScan(t, what, wrong, 0)
		wantScan(t, what, append(bytes.Clone(wrong), whole...), 0)
		wantScan(t, what, slices.Concat(whole, wrong), len(whole), list...)
		wantScan(t, what, slices.Concat(whole, wrong, whole), len(whole), list...)
	}
	for mark := range 256 {
		if mark == 1 || mark == 2 {
			continue
		}
		wantScan(t, "mark "+strconv.Itoa(mark), rawImage(byte(mark), 7, 2, "xy"), 0)
		wantScan(t, "mark "+strconv.Itoa(mark), rawImage(byte(mark), 7, 0, ""), 0)
	}
	for n := impl.MaxId + 1; n <= 65535; n += 97 {
		wantScan(t, "Id "+strconv.Itoa(n), rawImage(1, n, 2, "xy"), 0)
		wantScan(t, "Id "+strconv.Itoa(n), rawImage(2, n, 0, ""), 0)
	}
	// The sum with its lower bytes first, and of other bytes than all ahead of it.
	b := rawOf(hereImage(7, "xy"))
	slices.Reverse(b[len(b)-4:])
	wantScan(t, "a sum turned round", b, 0)
	wantScan(t, "the sum of Data alone", append([]byte("\x01\x00\x07\x00\x02xy"), 0x8f, 0xe6, 0x28, 0x99), 0)
}

func TestScanOfAsManyBytesAsThereMayBe(t *testing.T) {
	small := slices.Repeat([]impl.Image{goneImage(3)}, impl.MaxText/smallImage)
	b := rawOf(small...)
	place := len(b)
	b = append(b, make([]byte, impl.MaxText+1-place)...)
	wantScan(t, "small ones", b[:impl.MaxText], place, small...)
	var great []impl.Image
	for id := range 64 {
		great = append(great, sizedImage(id, impl.MaxImage))
	}
	great = append(great, sizedImage(64, impl.MaxText-64*(impl.MaxImage+smallImage)-smallImage))
	wantScan(t, "up to the last byte", rawOf(great...), impl.MaxText, great...)
	for _, long := range [][]byte{b, append(rawOf(great...), 0), make([]byte, 2*impl.MaxText)} {
		if list, at, code := impl.ScanImages(long); len(list) != 0 || at != 0 || code != impl.ErrLong {
			t.Errorf("ScanImages of %d bytes: %d images, %d, %d", len(long), len(list), at, code)
		}
	}
}
