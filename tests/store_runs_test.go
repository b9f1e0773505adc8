package tests

import (
	"bytes"
	"encoding/binary"
	"hash/crc32"
	"testing"

	"loop.example/g00163/impl"
)

// plainScan asks byte by byte what the document says of an image's bytes.
func plainScan(b []byte) ([]impl.Image, int) {
	var list []impl.Image
	at := 0
	for len(b)-at >= smallImage {
		mark, id, size := b[at], int(b[at+1])*256+int(b[at+2]), int(b[at+3])*256+int(b[at+4])
		end := at + 5 + size
		wrong := mark != 1 && mark != 2 || mark == 2 && size > 0 || id > impl.MaxId || size > impl.MaxImage
		if wrong || end+4 > len(b) || binary.BigEndian.Uint32(b[end:]) != crc32.ChecksumIEEE(b[at:end]) {
			break
		}
		list = append(list, impl.Image{Id: id, Gone: mark == 2, Data: bytes.Clone(b[at+5 : end])})
		at = end + 4
	}
	return list, at
}

func plainLatest(b []byte) []impl.Image {
	all, _ := plainScan(b)
	var list []impl.Image
	for id := range impl.MaxId + 1 {
		found := impl.Image{Gone: true}
		for _, x := range all {
			if x.Id == id {
				found = x
			}
		}
		if !found.Gone {
			list = append(list, found)
		}
	}
	return list
}

// store does on a plain device what the document says of Store.
func (p *plainFlash) store(x impl.Image) int {
	all := p.read()
	_, at := plainScan(all.Held)
	if code := all.write(at, rawOf(x)); code != impl.OK {
		return code
	}
	*p = all.read()
	return impl.OK
}

// someImage has one of a few Ids, so that many are stored again.
func someImage(next func() uint64) impl.Image {
	id := []int{0, 1, 2, 255, 256, impl.MaxId}[next()%6]
	switch next() % 8 {
	case 0, 1:
		return goneImage(id)
	case 2:
		return sizedImage(id, int(next()%(impl.MaxImage+1)))
	}
	return impl.Image{Id: id, Data: pattern(int(next()%999), int(next()%60))}
}

func TestStoresDoWhatTheDocumentSays(t *testing.T) {
	next := numbers(11)
	for range 60 {
		var plain plainFlash
		f := impl.Flash{}
		for step := range 40 {
			switch next() % 10 {
			case 0:
				plain = plainFlash{impl.Flash{Held: joined(rawOf(plainLatest(plain.read().Held)...))}}
				f = cleaned(t, f)
			case 1:
				// What waits may turn bytes of images, or be one that stands.
				at := int(next() % 300)
				plain.write(at, rawOf(someImage(next)))
				f = impl.Flash{Held: bytes.Clone(plain.Held), Waiting: plain.Waiting}
			case 2:
				keep, torn := someAct(next).Keep, int(next()%17)
				plain.crash(keep, torn)
				f = impl.Flash{Held: crash(t, f, torn, keep...)}
			default:
				x := someImage(next)
				want := plain.store(x)
				g, code := impl.Store(f, x)
				if code != want {
					t.Fatalf("step %d: Store has code %d, want %d", step, code, want)
				}
				if code == impl.OK {
					f = g
				}
			}
			if !sameFlash(f, plain.Flash) {
				t.Fatalf("step %d: another device, %d bytes are held, want %d", step, len(f.Held), len(plain.Held))
			}
			all := plain.read().Held
			wantImages(t, "latest", latest(t, f), plainLatest(all))
			list, at := plainScan(all)
			wantScan(t, "scan", all, at, list...)
		}
	}
}

// What was stored from nothing on is scanned as it was stored; cleaning changes nothing of the latest.
func TestStoredImagesAreReadBack(t *testing.T) {
	next := numbers(13)
	for range 100 {
		f := impl.Flash{}
		var list []impl.Image
		for range 60 {
			x := someImage(next)
			g, code := impl.Store(f, x)
			room := len(rawOf(list...))+smallImage+len(x.Data) <= flashSize
			if room != (code == impl.OK) || !room && code != impl.ErrFull {
				t.Fatalf("Store of %d bytes: code %d", len(x.Data), code)
			}
			if room {
				f = g
				list = append(list, x)
			}
		}
		wantScan(t, "all", f.Held, len(rawOf(list...)), list...)
		before := latest(t, f)
		wantImages(t, "latest", before, plainLatest(f.Held))
		clean := cleaned(t, f)
		wantImages(t, "cleaned", latest(t, clean), before)
		wantScan(t, "cleaned", clean.Held, len(rawOf(before...)), before...)
	}
}
