package tests

import (
	"bytes"
	"testing"

	"loop.example/g00163/impl"
)

// plainFlash does what the document says, byte by byte and without any haste.
type plainFlash struct{ impl.Flash }

func (p *plainFlash) put(n int, data []byte) {
	for len(p.Held) < (n+1)*impl.SectorSize {
		p.Held = append(p.Held, 0)
	}
	for i, c := range data {
		p.Held[n*impl.SectorSize+i] = c
	}
}

func (p *plainFlash) read() plainFlash {
	all := plainFlash{impl.Flash{Held: bytes.Clone(p.Held)}}
	for _, w := range p.Waiting {
		all.put(w.At, w.Data)
	}
	return all
}

func (p *plainFlash) sector(n int) []byte {
	all := p.read().Held
	data := make([]byte, impl.SectorSize)
	for i := range data {
		if at := n*impl.SectorSize + i; at < len(all) {
			data[i] = all[at]
		}
	}
	return data
}

func (p *plainFlash) write(at int, data []byte) int {
	if at < 0 || at > flashSize || at+len(data) > flashSize {
		return impl.ErrFull
	}
	var list []impl.Write
	for i, c := range data {
		n := (at + i) / impl.SectorSize
		if len(list) == 0 || list[len(list)-1].At != n {
			list = append(list, impl.Write{At: n, Data: p.sector(n)})
		}
		list[len(list)-1].Data[(at+i)%impl.SectorSize] = c
	}
	if len(p.Waiting)+len(list) > impl.MaxList {
		return impl.ErrMany
	}
	p.Waiting = append(p.Waiting, list...)
	return impl.OK
}

func (p *plainFlash) crash(keep []bool, torn int) int {
	if torn < 0 || torn > impl.SectorSize {
		return impl.ErrRange
	}
	last := -1
	for i := range p.Waiting {
		if i < len(keep) && keep[i] {
			last = i
		}
	}
	for i, w := range p.Waiting {
		if i < last && keep[i] {
			p.put(w.At, w.Data)
		}
		if i == last {
			p.put(w.At, w.Data[:torn])
		}
	}
	p.Waiting = nil
	return impl.OK
}

func (p *plainFlash) do(a impl.FlashAct) int {
	switch a.Kind {
	case impl.FlWrite:
		return p.write(a.At, a.Data)
	case impl.FlSync:
		*p = p.read()
		return impl.OK
	case impl.FlCrash:
		return p.crash(a.Keep, a.Torn)
	case impl.FlTrim:
		if a.At < 0 || a.At >= impl.MaxSectors {
			return impl.ErrRange
		}
		*p = p.read()
		if a.At*impl.SectorSize < len(p.Held) {
			p.put(a.At, make([]byte, impl.SectorSize))
		}
		return impl.OK
	}
	return impl.ErrForm
}

// someAct is mostly a write near the beginning, now and then anything.
func someAct(next func() uint64) impl.FlashAct {
	under := func(n int) int { return int(next() % uint64(n)) }
	act := impl.FlashAct{Kind: impl.FlWrite, At: under(100), Torn: under(19) - 1, Data: pattern(under(200), under(40))}
	for range under(12) {
		act.Keep = append(act.Keep, under(3) > 0)
	}
	switch under(12) {
	case 0:
		act.Kind = impl.FlSync
	case 1, 2:
		act.Kind = impl.FlCrash
	case 3:
		act.Kind, act.At = impl.FlTrim, under(9)-1
	case 4:
		act.At = under(flashSize+40) - 10
	case 5:
		act.Data = pattern(under(200), under(400))
	case 6:
		act.Kind = under(8) - 1
	}
	return act
}

func TestRunsDoWhatTheDocumentSays(t *testing.T) {
	next := numbers(3)
	for range 300 {
		var plain plainFlash
		var acts []impl.FlashAct
		var want []int
		for range 1 + int(next()%impl.MaxActs) {
			act := someAct(next)
			acts = append(acts, act)
			want = append(want, plain.do(act))
		}
		codes, f := run(t, acts...)
		wantCodes(t, codes, want...)
		if !sameFlash(f, plain.Flash) || !impl.FlashOK(f) {
			t.Fatalf("a run of %d acts makes another device", len(acts))
		}
		wantBytes(t, "read", read(t, f), plain.read().Held)
		torn, keep := int(next()%17), someAct(next).Keep
		plain.crash(keep, torn)
		wantBytes(t, "behind a crash", crash(t, f, torn, keep...), plain.Held)
	}
}

// What is read of a run of writes, whatever is synced among them, is what was written last at each place.
func TestWhatIsReadIsWhatWasWritten(t *testing.T) {
	next := numbers(5)
	for range 200 {
		var acts []impl.FlashAct
		written := make([]byte, flashSize)
		end := 0
		for range int(next() % impl.MaxActs) {
			if next()%8 == 0 {
				acts = append(acts, syncAct())
				continue
			}
			size := int(next() % 90)
			at := int(next() % uint64(flashSize-size+1))
			data := pattern(int(next()%999), size)
			acts = append(acts, writeAct(at, string(data)))
			copy(written[at:], data)
			if size > 0 {
				end = max(end, (at+size+impl.SectorSize-1)/impl.SectorSize*impl.SectorSize)
			}
		}
		wantBytes(t, "read", read(t, runRight(t, acts...)), written[:end])
	}
}

// Behind a sync a crash may touch only the sectors that wait, whatever it keeps and however it tears.
func TestWhatIsSyncedStays(t *testing.T) {
	next := numbers(7)
	for range 300 {
		acts := []impl.FlashAct{writeAct(0, string(pattern(int(next()%99), 300))), syncAct()}
		synced := runRight(t, acts...).Held
		for range next() % 6 {
			acts = append(acts, writeAct(int(next()%400), string(pattern(int(next()%99), int(next()%30)))))
		}
		f := runRight(t, acts...)
		wantBytes(t, "held", f.Held, synced)
		got := crash(t, f, int(next()%17), someAct(next).Keep...)
		if len(got) < len(synced) {
			t.Fatalf("%d bytes are left of %d", len(got), len(synced))
		}
		for at, c := range synced {
			if got[at] != c && !waitsWith(f, at, got[at]) {
				t.Fatalf("place %d has %d: it was synced as %d, and no write has that", at, got[at], c)
			}
		}
	}
}

// waitsWith tells whether a sector that waits has a byte at a place.
func waitsWith(f impl.Flash, at int, c byte) bool {
	for _, w := range f.Waiting {
		if w.At == at/impl.SectorSize && w.Data[at%impl.SectorSize] == c {
			return true
		}
	}
	return false
}
