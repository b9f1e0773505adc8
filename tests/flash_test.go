package tests

import (
	"bytes"
	"math"
	"slices"
	"strconv"
	"strings"
	"testing"

	"loop.example/g00163/impl"
)

func TestFlashConstants(t *testing.T) {
	got := []int{impl.SectorSize, impl.MaxSectors, impl.MaxActs, impl.FlWrite, impl.FlSync, impl.FlCrash, impl.FlTrim}
	if want := []int{16, 128, 120, 1, 2, 3, 4}; !slices.Equal(got, want) {
		t.Errorf("%v, want %v", got, want)
	}
}

func TestFlashOKAndItsCode(t *testing.T) {
	for i, f := range rightDevices() {
		if !impl.FlashOK(f) {
			t.Errorf("right device %d: not right", i)
		}
		if _, code := impl.FlashRead(f); code != impl.OK {
			t.Errorf("right device %d: FlashRead has code %d", i, code)
		}
		if _, code := impl.FlashCrash(f, nil, 0); code != impl.OK {
			t.Errorf("right device %d: FlashCrash has code %d", i, code)
		}
	}
	for i, f := range wrongDevices() {
		if impl.FlashOK(f) {
			t.Errorf("wrong device %d: right", i)
		}
		if b, code := impl.FlashRead(f); b != nil || code != impl.ErrBad {
			t.Errorf("wrong device %d: FlashRead has %d bytes, code %d", i, len(b), code)
		}
		if after, code := impl.FlashCrash(f, nil, 0); !sameFlash(after, impl.Flash{}) || code != impl.ErrBad {
			t.Errorf("wrong device %d: FlashCrash has code %d", i, code)
		}
	}
}

func TestEveryHeldSizeIsAskedForWholeSectors(t *testing.T) {
	held := make([]byte, flashSize+2*impl.SectorSize)
	for size := range len(held) + 1 {
		want := size%impl.SectorSize == 0 && size <= flashSize
		if got := impl.FlashOK(impl.Flash{Held: held[:size]}); got != want {
			t.Errorf("%d bytes held: right %v, want %v", size, got, want)
		}
	}
}

func TestReadPutsWhatWaits(t *testing.T) {
	held := pattern(1, 3*impl.SectorSize)
	a, b, c := pattern(2, impl.SectorSize), pattern(3, impl.SectorSize), pattern(4, impl.SectorSize)
	for _, x := range []struct {
		name    string
		held    []byte
		waiting []impl.Write
		want    []byte
	}{
		{"nothing", nil, nil, nil},
		{"held alone", held, nil, held},
		{"first sector", held, []impl.Write{{At: 0, Data: a}}, joined(a, held[16:])},
		{"last sector", held, []impl.Write{{At: 2, Data: a}}, joined(held[:32], a)},
		{"just behind", held, []impl.Write{{At: 3, Data: a}}, joined(held, a)},
		{"noughts up to it", held, []impl.Write{{At: 5, Data: a}}, joined(held, noughts(2), a)},
		{"noughts from nothing on", nil, []impl.Write{{At: 2, Data: a}}, joined(noughts(2), a)},
		{"one waits twice", held, []impl.Write{{At: 1, Data: a}, {At: 1, Data: b}}, joined(held[:16], b, held[32:])},
		{"twice, another between", nil, []impl.Write{{At: 1, Data: a}, {At: 0, Data: c}, {At: 1, Data: b}}, joined(c, b)},
		{"falling numbers", nil, []impl.Write{{At: 3, Data: a}, {At: 1, Data: b}, {At: 0, Data: c}}, joined(c, b, noughts(1), a)},
		{"the last place", nil, []impl.Write{{At: 127, Data: a}}, joined(noughts(127), a)},
		{"noughts over bytes", held, []impl.Write{{At: 1, Data: noughts(1)}}, joined(held[:16], noughts(1), held[32:])},
	} {
		wantBytes(t, x.name, read(t, impl.Flash{Held: x.held, Waiting: x.waiting}), x.want)
	}
}

// wantWaiting asks what waits: numbers, and sectors as one text filled up with noughts.
func wantWaiting(t *testing.T, what string, f impl.Flash, numbers []int, data []byte) {
	t.Helper()
	var got []int
	var all []byte
	for _, w := range f.Waiting {
		got = append(got, w.At)
		all = append(all, w.Data...)
		if len(w.Data) != impl.SectorSize {
			t.Errorf("%s: a sector of %d bytes waits", what, len(w.Data))
		}
	}
	if !slices.Equal(got, numbers) {
		t.Errorf("%s: %v wait, want %v", what, got, numbers)
	}
	wantBytes(t, what, all, data)
}

func TestWriteTouchesSectorsInOrder(t *testing.T) {
	long := string(pattern(5, 40))
	for _, x := range []struct {
		name    string
		at      int
		data    string
		numbers []int
		want    []byte
	}{
		{"no bytes", 0, "", nil, nil},
		{"no bytes within", 7, "", nil, nil},
		{"no bytes at the end", flashSize, "", nil, nil},
		{"one byte", 0, "x", []int{0}, joined([]byte("x"))},
		{"within one", 5, "abc", []int{0}, joined([]byte("\x00\x00\x00\x00\x00abc"))},
		{"the last byte of one", 31, "x", []int{1}, []byte("\x00\x00\x00\x00\x00\x00\x00\x00\x00\x00\x00\x00\x00\x00\x00x")},
		{"the first byte of one", 32, "x", []int{2}, joined([]byte("x"))},
		{"a whole one", 16, long[:16], []int{1}, []byte(long[:16])},
		{"over a border", 15, "ab", []int{0, 1}, joined([]byte("\x00\x00\x00\x00\x00\x00\x00\x00\x00\x00\x00\x00\x00\x00\x00a"), []byte("b"))},
		{"whole ones and a piece", 32, long, []int{2, 3, 4}, joined([]byte(long))},
		{"pieces at both ends", 60, long, []int{3, 4, 5, 6}, joined(append(make([]byte, 12), long...))},
		{"up to the end", flashSize - 3, "end", []int{127}, append(make([]byte, 13), "end"...)},
	} {
		f := runRight(t, writeAct(x.at, x.data))
		if len(f.Held) != 0 {
			t.Errorf("%s: %d bytes are held", x.name, len(f.Held))
		}
		wantWaiting(t, x.name, f, x.numbers, x.want)
	}
}

func TestWriteOverEveryLengthAndPlace(t *testing.T) {
	for at := range 2*impl.SectorSize + 1 {
		for size := range 3*impl.SectorSize + 2 {
			data := pattern(at+size, size)
			f := runRight(t, writeAct(at, string(data)))
			first, behind := at/impl.SectorSize, (at+size+impl.SectorSize-1)/impl.SectorSize
			var numbers []int
			var want []byte
			if size > 0 {
				for n := first; n < behind; n++ {
					numbers = append(numbers, n)
				}
				want = joined(append(make([]byte, at%impl.SectorSize), data...))
			}
			wantWaiting(t, "write of "+strconv.Itoa(size)+" at "+strconv.Itoa(at), f, numbers, want)
			if size > 0 {
				wantBytes(t, "read", read(t, f), joined(noughts(first), want))
			}
		}
	}
}

func TestWriteTakesSectorsAsTheyAreRead(t *testing.T) {
	whole := string(pattern(6, 32))
	f := runRight(t, writeAct(0, whole), syncAct(), writeAct(14, "ab"), writeAct(15, "XYZ"))
	if !bytes.Equal(f.Held, []byte(whole)) {
		t.Errorf("held %q", f.Held)
	}
	a := whole[:14] + "ab"
	b := whole[:14] + "aX"
	c := "YZ" + whole[18:]
	wantWaiting(t, "over what is held and what waits", f, []int{0, 0, 1}, []byte(a+b+c))
	wantBytes(t, "read", read(t, f), []byte(b+c))
}

func TestWriteBounds(t *testing.T) {
	full := strings.Repeat("f", flashSize)
	codes, f := run(t,
		writeAct(0, full), writeAct(flashSize-1, "x"), writeAct(flashSize, ""),
		writeAct(flashSize, "x"), writeAct(flashSize+1, ""), writeAct(-1, ""), writeAct(-1, "xx"), writeAct(flashSize-1, "xx"),
		writeAct(0, full+"x"), writeAct(1, full), writeAct(-1, full), writeAct(-flashSize, full),
		writeAct(math.MaxInt, ""), writeAct(math.MaxInt, "x"), writeAct(math.MaxInt-1, "xx"), writeAct(math.MinInt, ""), writeAct(math.MinInt, full),
		writeAct(0, strings.Repeat("f", impl.MaxText+1)))
	wantCodes(t, codes, 0, 0, 0, 7, 7, 7, 7, 7, 7, 7, 7, 7, 7, 7, 7, 7, 7, 7)
	wantBytes(t, "read", read(t, f), []byte(full[1:]+"x"))
}

func TestNoMoreThanMaxListWait(t *testing.T) {
	full := writeAct(0, strings.Repeat("f", flashSize))
	acts := slices.Repeat([]impl.FlashAct{full}, impl.MaxList/impl.MaxSectors)
	f := runRight(t, acts...)
	if len(f.Waiting) != impl.MaxList || !impl.FlashOK(f) {
		t.Fatalf("%d wait", len(f.Waiting))
	}
	more := append(slices.Clone(acts), writeAct(9, "x"), writeAct(9, ""), writeAct(flashSize, "x"), full)
	codes, g := run(t, more...)
	wantCodes(t, codes[len(acts):], impl.ErrMany, impl.OK, impl.ErrFull, impl.ErrMany)
	if !sameFlash(f, g) {
		t.Error("a write with a code changes what waits")
	}
	// Just one sector is left here: two that are touched are one too many.
	nearly := append(slices.Clone(acts[1:]), writeAct(0, strings.Repeat("n", flashSize-16)), writeAct(15, "ab"), writeAct(15, "a"), writeAct(15, "b"))
	codes, g = run(t, nearly...)
	wantCodes(t, codes[len(acts):], impl.ErrMany, impl.OK, impl.ErrMany)
	if len(g.Waiting) != impl.MaxList {
		t.Errorf("%d wait", len(g.Waiting))
	}
	codes, g = run(t, append(more, syncAct(), writeAct(0, "x"))...)
	if last := codes[len(codes)-2:]; last[0] != impl.OK || last[1] != impl.OK || len(g.Waiting) != 1 {
		t.Errorf("behind a sync: codes %v, %d wait", last, len(g.Waiting))
	}
}

func TestSyncHoldsWhatIsRead(t *testing.T) {
	for i, acts := range [][]impl.FlashAct{
		{},
		{writeAct(3, "abc")},
		{writeAct(100, "abc"), writeAct(3, "abc"), writeAct(4, "xyz")},
		{writeAct(15, "ab"), syncAct(), writeAct(14, "xyz"), writeAct(2047, "e")},
	} {
		f := runRight(t, acts...)
		g := runRight(t, append(acts, syncAct())...)
		if len(g.Waiting) != 0 || !bytes.Equal(g.Held, read(t, f)) {
			t.Errorf("run %d: %d bytes are held, %d wait", i, len(g.Held), len(g.Waiting))
		}
		if again := runRight(t, append(acts, syncAct(), syncAct())...); !sameFlash(again, g) {
			t.Errorf("run %d: a second sync changes something", i)
		}
	}
}

func TestCrashTearsTheLastThatIsKept(t *testing.T) {
	held := pattern(7, 2*impl.SectorSize)
	a, b, c := pattern(8, impl.SectorSize), pattern(9, impl.SectorSize), pattern(10, impl.SectorSize)
	for torn := range impl.SectorSize + 1 {
		tear := func(fresh, old []byte) []byte {
			return append(bytes.Clone(fresh[:torn]), old[torn:]...)
		}
		name := "torn " + strconv.Itoa(torn) + ": "
		f := impl.Flash{Held: held, Waiting: []impl.Write{{At: 1, Data: a}}}
		wantBytes(t, name+"held", crash(t, f, torn, true), joined(held[:16], tear(a, held[16:])))
		f = impl.Flash{Held: held, Waiting: []impl.Write{{At: 0, Data: a}, {At: 1, Data: b}}}
		wantBytes(t, name+"last that waits", crash(t, f, torn, true, true), joined(a, tear(b, held[16:])))
		wantBytes(t, name+"not the last that waits", crash(t, f, torn, true, false), joined(tear(a, held[:16]), held[16:]))
		wantBytes(t, name+"the last alone", crash(t, f, torn, false, true), joined(held[:16], tear(b, held[16:])))
		f = impl.Flash{Held: held[:16], Waiting: []impl.Write{{At: 2, Data: a}}}
		wantBytes(t, name+"not held", crash(t, f, torn, true), joined(held[:16], noughts(1), tear(a, noughts(1))))
		f = impl.Flash{Waiting: []impl.Write{{At: 127, Data: a}}}
		wantBytes(t, name+"not held, nothing is", crash(t, f, torn, true), joined(noughts(127), tear(a, noughts(1))))
		f = impl.Flash{Held: held, Waiting: []impl.Write{{At: 1, Data: a}, {At: 1, Data: b}, {At: 0, Data: c}}}
		wantBytes(t, name+"over one that is kept", crash(t, f, torn, true, true), joined(held[:16], tear(b, a)))
		wantBytes(t, name+"over one that is not kept", crash(t, f, torn, false, true), joined(held[:16], tear(b, held[16:])))
		wantBytes(t, name+"another one torn", crash(t, f, torn, true, true, true), joined(tear(c, held[:16]), b))
	}
}

func TestCrashFlags(t *testing.T) {
	held := pattern(11, 2*impl.SectorSize)
	a, b, c := pattern(12, impl.SectorSize), pattern(13, impl.SectorSize), pattern(14, impl.SectorSize)
	f := impl.Flash{Held: held, Waiting: []impl.Write{{At: 0, Data: a}, {At: 3, Data: b}, {At: 1, Data: c}}}
	whole := impl.SectorSize
	for _, x := range []struct {
		name string
		keep []bool
		want []byte
	}{
		{"no flags", nil, held},
		{"none set", []bool{false, false, false}, held},
		{"fewer", []bool{true}, joined(a, held[16:])},
		{"fewer, not set", []bool{false, false}, held},
		{"all", []bool{true, true, true}, joined(a, c, noughts(1), b)},
		{"the middle one", []bool{false, true}, joined(held, noughts(1), b)},
		{"the outer ones", []bool{true, false, true}, joined(a, c)},
		{"more", []bool{false, false, true, true, true}, joined(held[:16], c)},
		{"only those beyond", []bool{false, false, false, true, true}, held},
		{"as many as there may be", flags(impl.MaxList, true), joined(a, c, noughts(1), b)},
	} {
		wantBytes(t, x.name, crash(t, f, whole, x.keep...), x.want)
	}
	// Flags that are set beyond what waits are of nothing: the last that is kept is torn.
	wantBytes(t, "torn, with flags beyond", crash(t, f, 4, false, false, true, true, true), joined(held[:16], append(bytes.Clone(c[:4]), held[20:]...)))
	wantBytes(t, "nothing waits", crash(t, impl.Flash{Held: held}, 5, true, true), held)
	wantBytes(t, "nothing at all", crash(t, impl.Flash{}, 5, true), nil)
	all := impl.Flash{Held: held, Waiting: manyWaiting(impl.MaxList)}
	wantBytes(t, "as many as may wait", crash(t, all, whole, flags(impl.MaxList, true)...), read(t, all))
}

func TestCrashCodes(t *testing.T) {
	right := impl.Flash{Held: pattern(1, 16), Waiting: []impl.Write{waits(0, 2)}}
	wrong := impl.Flash{Held: pattern(1, 15)}
	long := flags(impl.MaxList+1, false)
	for _, x := range []struct {
		name string
		f    impl.Flash
		keep []bool
		torn int
		want int
	}{
		{"torn 0", right, nil, 0, impl.OK},
		{"torn a sector", right, nil, impl.SectorSize, impl.OK},
		{"torn below", right, []bool{true}, -1, impl.ErrRange},
		{"torn above", right, []bool{true}, impl.SectorSize + 1, impl.ErrRange},
		{"torn far below", right, nil, math.MinInt, impl.ErrRange},
		{"torn far above", right, nil, math.MaxInt, impl.ErrRange},
		{"nothing to tear", impl.Flash{}, nil, -1, impl.ErrRange},
		{"a wrong device", wrong, nil, 0, impl.ErrBad},
		{"a wrong device, torn wrong", wrong, nil, -1, impl.ErrBad},
		{"as many flags as there may be", right, long[1:], 0, impl.OK},
		{"a flag too many", right, long, 0, impl.ErrLong},
		{"a flag too many, torn wrong", right, long, -1, impl.ErrLong},
		{"a flag too many, a wrong device", wrong, long, 17, impl.ErrLong},
	} {
		f, code := impl.FlashCrash(x.f, x.keep, x.torn)
		if code != x.want || code != impl.OK && !sameFlash(f, impl.Flash{}) {
			t.Errorf("%s: code %d, want %d", x.name, code, x.want)
		}
	}
}

func TestCrashWithinARun(t *testing.T) {
	f := runRight(t, writeAct(0, "held"), syncAct(), writeAct(1, "XY"), writeAct(40, "later"), crashAct(2, true), writeAct(3, "!"))
	wantBytes(t, "held", f.Held, joined([]byte("hXld")))
	wantWaiting(t, "behind the crash", f, []int{0}, joined([]byte("hXl!")))
	// The flags of an act are no argument of their own: there may be more than MaxList.
	f = runRight(t, writeAct(0, "abc"), impl.FlashAct{Kind: impl.FlCrash, Torn: 16, Keep: flags(impl.MaxList+1, true)})
	wantBytes(t, "many flags", f.Held, joined([]byte("abc")))
}

func TestTrim(t *testing.T) {
	three := string(pattern(15, 3*impl.SectorSize))
	for _, x := range []struct {
		name string
		acts []impl.FlashAct
		want []byte
	}{
		{"of nothing", []impl.FlashAct{trimAct(0)}, nil},
		{"of the last number, nothing held", []impl.FlashAct{trimAct(127)}, nil},
		{"held", []impl.FlashAct{writeAct(0, three), syncAct(), trimAct(1)}, joined([]byte(three[:16]), noughts(1), []byte(three[32:]))},
		{"the last that is held", []impl.FlashAct{writeAct(0, three), syncAct(), trimAct(2)}, joined([]byte(three[:32]), noughts(1))},
		{"just behind what is held", []impl.FlashAct{writeAct(0, three), syncAct(), trimAct(3)}, []byte(three)},
		{"not held, others wait", []impl.FlashAct{writeAct(0, three), trimAct(9)}, []byte(three)},
		{"waits", []impl.FlashAct{writeAct(0, three), trimAct(0)}, joined(noughts(1), []byte(three[16:]))},
		{"waits over what is held", []impl.FlashAct{writeAct(0, three), syncAct(), writeAct(16, "new"), trimAct(1)}, joined([]byte(three[:16]), noughts(1), []byte(three[32:]))},
		{"another waits", []impl.FlashAct{writeAct(0, three), syncAct(), writeAct(16, "new"), trimAct(0)}, joined(noughts(1), []byte("new"+three[19:]))},
		{"twice", []impl.FlashAct{writeAct(0, three), trimAct(0), trimAct(2)}, joined(noughts(1), []byte(three[16:32]), noughts(1))},
		{"the last number", []impl.FlashAct{writeAct(2047, "e"), trimAct(127)}, noughts(128)},
		{"and a crash", []impl.FlashAct{writeAct(0, three), trimAct(0), crashAct(16, true, true, true)}, joined(noughts(1), []byte(three[16:]))},
	} {
		f := runRight(t, x.acts...)
		if len(f.Waiting) != 0 {
			t.Errorf("%s: %d wait", x.name, len(f.Waiting))
		}
		wantBytes(t, x.name, f.Held, x.want)
	}
	f := runRight(t, writeAct(0, three), trimAct(1), writeAct(20, "x"))
	wantWaiting(t, "a write behind a trim", f, []int{1}, joined([]byte("\x00\x00\x00\x00x")))
}

func TestAnActWithACodeChangesNothing(t *testing.T) {
	wrong := []struct {
		act  impl.FlashAct
		code int
	}{
		{writeAct(-1, "x"), impl.ErrFull},
		{writeAct(flashSize, "x"), impl.ErrFull},
		{writeAct(math.MaxInt, "x"), impl.ErrFull},
		{writeAct(0, strings.Repeat("x", flashSize+1)), impl.ErrFull},
		{crashAct(-1, true, true), impl.ErrRange},
		{crashAct(17, true, true), impl.ErrRange},
		{crashAct(math.MinInt), impl.ErrRange},
		{trimAct(-1), impl.ErrRange},
		{trimAct(128), impl.ErrRange},
		{trimAct(math.MinInt), impl.ErrRange},
		{trimAct(math.MaxInt), impl.ErrRange},
		{impl.FlashAct{}, impl.ErrForm},
		{impl.FlashAct{Kind: 5, Data: []byte("x")}, impl.ErrForm},
		{impl.FlashAct{Kind: -1, Torn: 99}, impl.ErrForm},
		{impl.FlashAct{Kind: math.MaxInt, At: -1}, impl.ErrForm},
		{impl.FlashAct{Kind: math.MinInt}, impl.ErrForm},
	}
	for i, acts := range [][]impl.FlashAct{
		{},
		{writeAct(10, "waits over the border")},
		{writeAct(10, "held"), syncAct()},
		{writeAct(10, "held"), syncAct(), writeAct(3, "waits"), writeAct(130, "too")},
	} {
		before := runRight(t, acts...)
		for _, w := range wrong {
			codes, after := run(t, append(slices.Clone(acts), w.act)...)
			if last := codes[len(codes)-1]; last != w.code {
				t.Errorf("run %d, then %q: code %d, want %d", i, shorten(told([]any{w.act})), last, w.code)
			}
			if !sameFlash(before, after) {
				t.Errorf("run %d, then %q: it has a code and changes something", i, shorten(told([]any{w.act})))
			}
		}
	}
}

func TestWhatAnActDoesNotHaveIsNotLookedAt(t *testing.T) {
	odd := impl.FlashAct{At: -5, Torn: 99, Data: pattern(1, flashSize+1), Keep: []bool{true}}
	sync, crash, trim, write := odd, odd, odd, odd
	sync.Kind = impl.FlSync
	crash.Kind, crash.Torn = impl.FlCrash, 1
	trim.Kind, trim.At = impl.FlTrim, 0
	write.Kind, write.At, write.Data = impl.FlWrite, 1, []byte("w")
	codes, f := run(t, write, sync, write, crash, trim, write)
	wantCodes(t, codes, 0, 0, 0, 0, 0, 0)
	wantBytes(t, "held", f.Held, noughts(1))
	wantWaiting(t, "waiting", f, []int{0}, joined([]byte("\x00w")))
}

func TestRunLimits(t *testing.T) {
	for _, x := range []struct{ count, want int }{
		{0, impl.OK}, {1, impl.OK}, {impl.MaxActs, impl.OK},
		{impl.MaxActs + 1, impl.ErrMany}, {impl.MaxList, impl.ErrMany},
		{impl.MaxList + 1, impl.ErrLong}, {2 * impl.MaxList, impl.ErrLong},
	} {
		acts := slices.Repeat([]impl.FlashAct{writeAct(0, "x")}, x.count)
		codes, f, code := impl.FlashRun(acts)
		if code != x.want {
			t.Errorf("%d acts: code %d, want %d", x.count, code, x.want)
		}
		if code == impl.OK && (len(codes) != x.count || len(f.Waiting) != x.count) {
			t.Errorf("%d acts: %d codes, %d wait", x.count, len(codes), len(f.Waiting))
		}
		if code != impl.OK && (len(codes) != 0 || !sameFlash(f, impl.Flash{})) {
			t.Errorf("%d acts: %d codes, %d wait", x.count, len(codes), len(f.Waiting))
		}
	}
}
