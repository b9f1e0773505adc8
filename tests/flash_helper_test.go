package tests

import (
	"bytes"
	"slices"
	"testing"

	"loop.example/g00163/impl"
)

const flashSize = impl.SectorSize * impl.MaxSectors

// pattern is bytes that differ from place to place, none of them nought.
func pattern(seed, size int) []byte {
	b := make([]byte, size)
	for i := range b {
		b[i] = byte(1 + (seed*37+i*11+i/impl.SectorSize)%255)
	}
	return b
}

func waits(at, seed int) impl.Write {
	return impl.Write{At: at, Data: pattern(seed, impl.SectorSize)}
}

func manyWaiting(n int) []impl.Write {
	var list []impl.Write
	for i := range n {
		list = append(list, waits(i*5%impl.MaxSectors, i))
	}
	return list
}

func flags(n int, flag bool) []bool {
	return slices.Repeat([]bool{flag}, n)
}

func writeAct(at int, data string) impl.FlashAct {
	return impl.FlashAct{Kind: impl.FlWrite, At: at, Data: []byte(data)}
}

func syncAct() impl.FlashAct {
	return impl.FlashAct{Kind: impl.FlSync}
}

func crashAct(torn int, keep ...bool) impl.FlashAct {
	return impl.FlashAct{Kind: impl.FlCrash, Torn: torn, Keep: keep}
}

func trimAct(at int) impl.FlashAct {
	return impl.FlashAct{Kind: impl.FlTrim, At: at}
}

func sameFlash(a, b impl.Flash) bool {
	return bytes.Equal(a.Held, b.Held) && slices.EqualFunc(a.Waiting, b.Waiting, func(x, y impl.Write) bool {
		return x.At == y.At && bytes.Equal(x.Data, y.Data)
	})
}

// run does acts that must be taken as a whole.
func run(t *testing.T, acts ...impl.FlashAct) ([]int, impl.Flash) {
	t.Helper()
	codes, f, code := impl.FlashRun(acts)
	if code != impl.OK || len(codes) != len(acts) {
		t.Fatalf("FlashRun of %d acts: %d codes, code %d", len(acts), len(codes), code)
	}
	return codes, f
}

// runRight does acts that must all be done.
func runRight(t *testing.T, acts ...impl.FlashAct) impl.Flash {
	t.Helper()
	codes, f := run(t, acts...)
	if i := slices.IndexFunc(codes, func(code int) bool { return code != impl.OK }); i >= 0 {
		t.Fatalf("FlashRun: act %d (%q) has code %d", i, shorten(told([]any{acts[i]})), codes[i])
	}
	return f
}

func read(t *testing.T, f impl.Flash) []byte {
	t.Helper()
	b, code := impl.FlashRead(f)
	if code != impl.OK {
		t.Fatalf("FlashRead: code %d", code)
	}
	return b
}

func crash(t *testing.T, f impl.Flash, torn int, keep ...bool) []byte {
	t.Helper()
	after, code := impl.FlashCrash(f, keep, torn)
	if code != impl.OK || len(after.Waiting) != 0 {
		t.Fatalf("FlashCrash torn %d: code %d, %d wait", torn, code, len(after.Waiting))
	}
	return after.Held
}

func wantBytes(t *testing.T, what string, got, want []byte) {
	t.Helper()
	if !bytes.Equal(got, want) {
		t.Errorf("%s: %d bytes %q, want %d %q", what, len(got), got, len(want), want)
	}
}

func wantCodes(t *testing.T, got []int, want ...int) {
	t.Helper()
	if !slices.Equal(got, want) {
		t.Errorf("codes %v, want %v", got, want)
	}
}

// joined are pieces one behind the other, each filled up with noughts to whole sectors.
func joined(pieces ...[]byte) []byte {
	var all []byte
	for _, p := range pieces {
		all = append(all, p...)
		for len(all)%impl.SectorSize != 0 {
			all = append(all, 0)
		}
	}
	return all
}

func noughts(sectors int) []byte {
	return make([]byte, sectors*impl.SectorSize)
}
