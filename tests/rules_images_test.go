package tests

import (
	"bytes"
	"slices"

	"loop.example/g00163/impl"
)

// imageDevices are devices with images that are held, that wait, that are torn.
func imageDevices() []impl.Flash {
	list := someImages()
	whole := rawOf(list...)
	full := rawOf(sizedImage(1, 1000), sizedImage(2, 1000), sizedImage(1, 21))
	return []impl.Flash{
		holding(whole...),
		{Held: joined(whole, noughts(4))},
		{Waiting: waitingOf(0, whole)},
		{Held: joined(whole), Waiting: waitingOf(1, pattern(1, 16))},
		{Held: joined(whole)[:64], Waiting: waitingOf(4, joined(whole)[64:])},
		holding(whole[:len(whole)-1]...),
		holding(rawOf(hereImage(3, ""), hereImage(1, ""), hereImage(2, ""))...),
		holding(rawOf(hereImage(3, "abc"), hereImage(1, "abc"), hereImage(2, "abc"))...),
		holding(rawOf(hereImage(1, "a"), goneImage(1))...),
		{Held: full},
		{Waiting: waitingOf(0, full)},
		{Held: full, Waiting: waitingOf(70, noughts(8))},
		{Held: noughts(impl.MaxSectors)},
		{Waiting: slices.Repeat(waitingOf(0, full), impl.MaxList/impl.MaxSectors)},
	}
}

func givenImages() []impl.Image {
	return slices.Concat(rightImages(), wrongImages())
}

// givenImageBytes end anywhere within an image, or have something that no image has.
func givenImageBytes() [][]byte {
	list := [][]byte{nil, {}, {1}, {2}, {1, 255, 255, 255, 255}, {2, 0, 0, 255, 255}, make([]byte, impl.MaxText), make([]byte, impl.MaxText+1)}
	few := rawOf(hereImage(5, "five"), goneImage(5), hereImage(0, ""), hereImage(impl.MaxId, "last"))
	for end := range len(few) + 1 {
		list = append(list, few[:end])
	}
	for at := range few {
		turned := bytes.Clone(few)
		turned[at] ^= 0x81
		list = append(list, turned)
	}
	for _, wrong := range wrongBytes() {
		list = append(list, wrong, append(bytes.Clone(few), wrong...))
	}
	return append(list, rawOf(someImages()...), bytes.Repeat(few, impl.MaxText/len(few)))
}

func imageCalls() []call {
	devices := slices.Concat(imageDevices(), rightDevices(), wrongDevices())
	var stores [][]any
	for i, f := range devices {
		for k, x := range givenImages() {
			// Of the devices where many wait each image would take too much time.
			if len(f.Waiting) < 999 || (i+k)%9 == 0 {
				stores = append(stores, []any{f, x})
			}
		}
	}
	return slices.Concat(
		plain("Crc", impl.Crc, each(givenImageBytes())),
		coded("ImageBytes", impl.ImageBytes, each(givenImages())),
		coded("ScanImages", impl.ScanImages, each(givenImageBytes())),
		coded("Store", impl.Store, stores),
		coded("Latest", impl.Latest, each(devices)),
		coded("Clean", impl.Clean, each(devices)),
	)
}
