package tests

import (
	"bytes"
	"encoding/binary"
	"hash/crc32"
	"math"
	"slices"
	"strings"
	"testing"

	"loop.example/g00163/impl"
)

// smallImage is how many bytes an image without Data has.
const smallImage = 9

func hereImage(id int, data string) impl.Image {
	return impl.Image{Id: id, Data: []byte(data)}
}

func goneImage(id int) impl.Image {
	return impl.Image{Id: id, Gone: true}
}

// sizedImage has Data of some size, other bytes for each seed.
func sizedImage(id, size int) impl.Image {
	return impl.Image{Id: id, Data: pattern(id+size, size)}
}

// rawImage has the right sum over whatever it is made of.
func rawImage(mark byte, id, size int, data string) []byte {
	b := []byte{mark, byte(id >> 8), byte(id), byte(size >> 8), byte(size)}
	b = append(b, data...)
	return binary.BigEndian.AppendUint32(b, crc32.ChecksumIEEE(b))
}

// rawOf are the bytes of right images, one behind the other.
func rawOf(list ...impl.Image) []byte {
	var b []byte
	for _, x := range list {
		mark := byte(1)
		if x.Gone {
			mark = 2
		}
		b = append(b, rawImage(mark, x.Id, len(x.Data), string(x.Data))...)
	}
	return b
}

// holding is a device that holds some bytes, and noughts up to the end of the sector.
func holding(b ...byte) impl.Flash {
	return impl.Flash{Held: joined(b)}
}

// waitingOf are bytes that wait sector by sector, from a sector's number on.
func waitingOf(n int, b []byte) []impl.Write {
	var list []impl.Write
	for one := range slices.Chunk(joined(b), impl.SectorSize) {
		list = append(list, impl.Write{At: n, Data: bytes.Clone(one)})
		n++
	}
	return list
}

func sameImages(a, b []impl.Image) bool {
	return slices.EqualFunc(a, b, func(x, y impl.Image) bool {
		return x.Id == y.Id && x.Gone == y.Gone && bytes.Equal(x.Data, y.Data)
	})
}

func wantImages(t *testing.T, what string, got, want []impl.Image) {
	t.Helper()
	if !sameImages(got, want) {
		t.Errorf("%s: %d images %q, want %d %q", what, len(got), shorten(told([]any{got})), len(want), shorten(told([]any{want})))
	}
}

func wantScan(t *testing.T, what string, b []byte, place int, want ...impl.Image) {
	t.Helper()
	got, at, code := impl.ScanImages(b)
	if at != place || code != impl.OK {
		t.Errorf("%s: place %d, code %d, want place %d", what, at, code, place)
	}
	wantImages(t, what, got, want)
}

// stored puts images that there must be room for on a device.
func stored(t *testing.T, f impl.Flash, list ...impl.Image) impl.Flash {
	t.Helper()
	for i, x := range list {
		next, code := impl.Store(f, x)
		if code != impl.OK || len(next.Waiting) != 0 || !impl.FlashOK(next) {
			t.Fatalf("Store of image %d (Id %d, %d bytes): code %d, %d wait", i, x.Id, len(x.Data), code, len(next.Waiting))
		}
		f = next
	}
	return f
}

func wantNoStore(t *testing.T, what string, f impl.Flash, x impl.Image, want int) {
	t.Helper()
	if got, code := impl.Store(f, x); code != want || !sameFlash(got, impl.Flash{}) {
		t.Errorf("%s: Store has code %d and a device of %d bytes, want code %d", what, code, len(got.Held), want)
	}
}

func latest(t *testing.T, f impl.Flash) []impl.Image {
	t.Helper()
	list, code := impl.Latest(f)
	if code != impl.OK {
		t.Fatalf("Latest: code %d", code)
	}
	return list
}

func cleaned(t *testing.T, f impl.Flash) impl.Flash {
	t.Helper()
	g, code := impl.Clean(f)
	if code != impl.OK || len(g.Waiting) != 0 || !impl.FlashOK(g) {
		t.Fatalf("Clean: code %d, %d wait", code, len(g.Waiting))
	}
	return g
}

func rightImages() []impl.Image {
	return []impl.Image{
		{}, {Data: []byte{}}, {Gone: true}, {Gone: true, Data: []byte{}},
		hereImage(0, "a"), hereImage(1, "\x00"), hereImage(255, "\x01\x02"), hereImage(256, strings.Repeat("\x00", 16)), hereImage(258, "xy"),
		sizedImage(3, 255), sizedImage(4, 256), sizedImage(5, 257), sizedImage(6, impl.MaxImage-1), sizedImage(7, impl.MaxImage),
		hereImage(impl.MaxId-1, ""), hereImage(impl.MaxId, ""), sizedImage(impl.MaxId, impl.MaxImage), goneImage(1), goneImage(impl.MaxId),
	}
}

// wrongImages have an Id, Data or Gone that no right image has; some look right in two bytes.
func wrongImages() []impl.Image {
	var list []impl.Image
	for _, id := range []int{math.MinInt, -65536, -256, -1, impl.MaxId + 1, 65535, 65536, 65536 + 5, 1 << 32, math.MaxInt} {
		list = append(list, hereImage(id, ""), hereImage(id, "abc"), goneImage(id))
	}
	for _, size := range []int{impl.MaxImage + 1, 65535, 65536, 65536 + 3, impl.MaxText + 1} {
		list = append(list, sizedImage(1, size))
	}
	for _, size := range []int{1, 2, impl.MaxImage, impl.MaxImage + 1, 65536} {
		list = append(list, impl.Image{Id: 1, Gone: true, Data: pattern(1, size)})
	}
	return append(list, impl.Image{Id: -1, Gone: true, Data: []byte("x")}, sizedImage(impl.MaxId+1, impl.MaxImage+1))
}

// wrongBytes look like images, their sums right, but no right image has them.
func wrongBytes() [][]byte {
	return [][]byte{
		rawImage(0, 0, 0, ""), rawImage(0, 5, 3, "abc"), rawImage(3, 5, 3, "abc"), rawImage(3, 5, 0, ""),
		rawImage(255, 5, 3, "abc"), rawImage(129, 5, 3, "abc"), rawImage(130, 5, 0, ""),
		rawImage(1, impl.MaxId+1, 3, "abc"), rawImage(1, 65535, 0, ""), rawImage(2, impl.MaxId+1, 0, ""), rawImage(2, 32768, 0, ""),
		rawImage(2, 5, 1, "a"), rawImage(2, 5, impl.MaxImage, strings.Repeat("a", impl.MaxImage)),
		rawImage(1, 5, impl.MaxImage+1, strings.Repeat("a", impl.MaxImage+1)), rawImage(1, 5, 65535, strings.Repeat("a", 60000)),
		rawImage(1, 5, 2, "abc"), rawImage(1, 5, 4, "abc"), rawImage(1, 5, 0, "abc"), rawImage(1, 5, 5, "\x01\x00\x05"),
	}
}
