package tests

import (
	"math"
	"slices"
	"strings"

	"loop.example/g00163/impl"
)

// rightDevices are devices with nothing, little and all that there may be.
func rightDevices() []impl.Flash {
	return []impl.Flash{
		{},
		{Held: []byte{}, Waiting: []impl.Write{}},
		{Held: pattern(1, impl.SectorSize)},
		{Held: pattern(2, 3*impl.SectorSize)},
		{Held: pattern(3, flashSize)},
		{Waiting: []impl.Write{waits(0, 4)}},
		{Waiting: []impl.Write{waits(impl.MaxSectors-1, 5)}},
		{Held: pattern(6, 2*impl.SectorSize), Waiting: []impl.Write{waits(1, 7)}},
		{Held: pattern(8, 2*impl.SectorSize), Waiting: []impl.Write{waits(4, 9), waits(0, 10), waits(4, 11), waits(2, 12)}},
		{Held: pattern(13, flashSize), Waiting: []impl.Write{waits(127, 14), waits(0, 15), waits(0, 16)}},
		{Held: pattern(17, impl.SectorSize), Waiting: manyWaiting(impl.MaxList)},
	}
}

// wrongDevices are devices each with one fault.
func wrongDevices() []impl.Flash {
	list := []impl.Flash{
		{Held: pattern(1, 1)},
		{Held: pattern(1, impl.SectorSize-1)},
		{Held: pattern(1, impl.SectorSize+1)},
		{Held: pattern(1, flashSize-1)},
		{Held: pattern(1, flashSize+1)},
		{Held: pattern(1, flashSize+impl.SectorSize)},
		{Held: pattern(1, impl.MaxText+impl.SectorSize)},
		{Waiting: manyWaiting(impl.MaxList + 1)},
	}
	for _, at := range []int{math.MinInt, -impl.SectorSize, -1, impl.MaxSectors, impl.MaxSectors + 1, flashSize, math.MaxInt} {
		list = append(list,
			impl.Flash{Waiting: []impl.Write{waits(at, 2)}},
			impl.Flash{Held: pattern(3, flashSize), Waiting: []impl.Write{waits(0, 4), waits(at, 5)}})
	}
	for _, size := range []int{0, 1, impl.SectorSize - 1, impl.SectorSize + 1, 2 * impl.SectorSize} {
		wrong := impl.Write{At: 1, Data: pattern(6, size)}
		list = append(list,
			impl.Flash{Waiting: []impl.Write{wrong}},
			impl.Flash{Held: pattern(7, flashSize), Waiting: []impl.Write{wrong, waits(0, 8)}},
			impl.Flash{Held: pattern(7, flashSize), Waiting: []impl.Write{waits(0, 8), wrong}})
	}
	return list
}

func givenFlags() [][]bool {
	return [][]bool{
		nil, {}, {true}, {false}, {false, true}, {true, true}, {true, true, false}, {false, true, true, true, true},
		flags(impl.MaxList, true), flags(impl.MaxList+1, true),
	}
}

func givenTears() []int {
	return []int{math.MinInt, -1, 0, 1, impl.SectorSize / 2, impl.SectorSize - 1, impl.SectorSize, impl.SectorSize + 1, math.MaxInt}
}

// givenActs are runs with acts of each Kind, right ones and wrong ones.
func givenActs() [][]impl.FlashAct {
	var numbers, sizes []impl.FlashAct
	for _, n := range []int{math.MinInt, -1, 0, 1, impl.MaxSectors - 1, impl.MaxSectors, flashSize, flashSize + 1, math.MaxInt} {
		for kind := -1; kind <= 5; kind++ {
			numbers = append(numbers, impl.FlashAct{Kind: kind, At: n, Torn: n, Data: []byte("abc"), Keep: []bool{true, true}})
		}
	}
	for _, size := range []int{0, 1, impl.SectorSize - 1, impl.SectorSize, impl.SectorSize + 1, flashSize, flashSize + 1, impl.MaxText + 1} {
		for _, at := range []int{0, 1, impl.SectorSize, flashSize - size, flashSize, math.MaxInt - size + 1} {
			sizes = append(sizes, writeAct(at, strings.Repeat("s", size)))
		}
	}
	longFlags := impl.FlashAct{Kind: impl.FlCrash, Torn: 3, Keep: flags(impl.MaxList+1, true)}
	return [][]impl.FlashAct{
		nil,
		{},
		{writeAct(0, "")},
		{writeAct(0, string(pattern(1, impl.SectorSize)))},
		{writeAct(14, "over the border of two"), writeAct(15, "xy")},
		{writeAct(14, "over the border of two"), syncAct(), writeAct(15, "xy")},
		{writeAct(14, "over the border of two"), crashAct(3, true, true), writeAct(15, "xy")},
		{writeAct(40, "abc"), trimAct(2), trimAct(9), writeAct(41, "x")},
		{writeAct(40, string(pattern(2, 64))), longFlags},
		{{Kind: math.MinInt}, {Kind: math.MaxInt}, {Kind: 9, Data: pattern(3, 99), Keep: flags(99, true)}},
		numbers,
		sizes,
		slices.Repeat([]impl.FlashAct{writeAct(0, string(pattern(4, flashSize)))}, 33),
		slices.Repeat([]impl.FlashAct{writeAct(5, "abc")}, impl.MaxActs),
		slices.Repeat([]impl.FlashAct{writeAct(5, "abc")}, impl.MaxActs+1),
		slices.Repeat([]impl.FlashAct{syncAct()}, impl.MaxList),
		slices.Repeat([]impl.FlashAct{syncAct()}, impl.MaxList+1),
	}
}

func flashCalls() []call {
	devices := slices.Concat(rightDevices(), wrongDevices())
	var crashes [][]any
	for _, f := range devices {
		// Of the long ones each way to crash would take too much time.
		for i, keep := range givenFlags() {
			for k, torn := range givenTears() {
				if len(f.Waiting) < 99 && len(keep) < 99 || (i+k)%4 == 0 {
					crashes = append(crashes, []any{f, keep, torn})
				}
			}
		}
	}
	return slices.Concat(
		plain("FlashOK", impl.FlashOK, each(devices)),
		coded("FlashRead", impl.FlashRead, each(devices)),
		coded("FlashCrash", impl.FlashCrash, crashes),
		coded("FlashRun", impl.FlashRun, each(givenActs())),
	)
}
