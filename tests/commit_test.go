package tests

import (
	"bytes"
	"math"
	"slices"
	"strings"
	"testing"

	"loop.example/g00163/impl"
)

func wantCommit(t *testing.T, what string, writes []impl.Version, time int, want string) {
	t.Helper()
	b, code := impl.CommitBytes(writes)
	if code != impl.OK || string(b) != want {
		t.Errorf("%s: CommitBytes has %q and code %d, want %q", what, shorten(string(b)), code, shorten(want))
	}
	back, code := impl.ReadCommit([]byte(want), time)
	if code != impl.OK || !slices.Equal(back, writes) {
		t.Errorf("%s: ReadCommit has %v and code %d", what, back, code)
	}
}

func wantNoCommit(t *testing.T, what string, writes []impl.Version, want int) {
	t.Helper()
	if b, code := impl.CommitBytes(writes); code != want || len(b) != 0 {
		t.Errorf("%s: CommitBytes has %q and code %d, want code %d", what, shorten(string(b)), code, want)
	}
}

func wantNoWrites(t *testing.T, what string, b []byte, time, want int) {
	t.Helper()
	if writes, code := impl.ReadCommit(b, time); code != want || len(writes) != 0 {
		t.Errorf("%s: ReadCommit of %q has %d writes and code %d, want code %d", what, shorten(string(b)), len(writes), code, want)
	}
}

func TestBytesOfACommit(t *testing.T) {
	for _, time := range []int{0, 1, 255, 256, impl.MaxId - 1, impl.MaxId} {
		wantCommit(t, "nothing", nil, time, "")
		wantCommit(t, "a put", versions(version("a", time, "xy")), time, "\x01\x01a\x02xy")
		wantCommit(t, "a put without a value", versions(version("a", time, "")), time, "\x01\x01a\x00")
		wantCommit(t, "a drop", versions(goneAt("b", time)), time, "\x02\x01b\x00")
		wantCommit(t, "a put and a drop", versions(version("a", time, "xy"), goneAt("b", time)), time, "\x01\x01a\x02xy\x02\x01b\x00")
		wantCommit(t, "a drop and a put", versions(goneAt("a\x00", time), version("aa", time, "\x00")), time, "\x02\x02a\x00\x00\x01\x02aa\x01\x00")
		wantCommit(t, "texts like marks", versions(version("\x01", time, "\x02\x01b\x00"), version("\x01\x01", time, "\x01")), time, "\x01\x01\x01\x04\x02\x01b\x00\x01\x02\x01\x01\x01\x01")
		wantCommit(t, "a key of MaxEntry bytes", versions(goneAt(longKey, time)), time, "\x02\x28"+longKey+"\x00")
		wantCommit(t, "a value of MaxValue bytes", versions(version("k", time, longValue)), time, "\x01\x01k\x64"+longValue)
		var all string
		for _, w := range manyWrites(impl.MaxWrites, time) {
			all += "\x01\x04" + w.Key + "\x01" + w.Value
		}
		wantCommit(t, "MaxWrites writes", manyWrites(impl.MaxWrites, time), time, all)
	}
	// Of another time the same bytes are other writes.
	if back, code := impl.ReadCommit([]byte("\x01\x01a\x00\x02\x01b\x00"), 7); code != impl.OK || !slices.Equal(back, versions(version("a", 7, ""), goneAt("b", 7))) {
		t.Errorf("ReadCommit at 7 has %v and code %d", back, code)
	}
}

func TestWritesThatAreNoCommit(t *testing.T) {
	for _, c := range wrongLists() {
		wantNoCommit(t, c.name, c.list, impl.ErrBad)
	}
	for _, c := range []namedList{
		{"one more than MaxWrites", manyWrites(impl.MaxWrites+1, 3)},
		{"MaxList", manyVersions(impl.MaxList)},
		{"two Times", versions(version("a", 1, ""), version("b", 2, ""))},
		{"two Times, falling", versions(version("a", 2, ""), version("b", 1, ""))},
		{"another Time at last", versions(version("a", 1, ""), version("b", 1, ""), version("c", 0, ""))},
		{"a key twice, of two Times", versions(version("a", 1, ""), version("a", 2, ""))},
		{"a key twice, of one Time", versions(version("a", 1, ""), version("a", 1, ""))},
		{"a key twice, one Gone", versions(version("a", 1, ""), goneAt("a", 1))},
		{"out of order", versions(version("b", 1, ""), version("a", 1, ""))},
		{"Gone with a value, last of several", versions(version("a", 1, "x"), impl.Version{Key: "b", Time: 1, Value: "x", Gone: true})},
		{"Time -1 of all", versions(version("a", -1, ""), version("b", -1, ""))},
		{"Time MaxId + 1 of all", versions(version("a", impl.MaxId+1, ""), goneAt("b", impl.MaxId+1))},
		{"the least Time", versions(version("a", math.MinInt, ""))},
		{"the greatest Time", versions(version("a", math.MaxInt, ""))},
		{"a key of 256 bytes", versions(version(strings.Repeat("k", 256), 1, ""))},
		{"a key of 257 bytes", versions(version(strings.Repeat("k", 257), 1, ""))},
		{"a value of 256 bytes", versions(version("k", 1, strings.Repeat("v", 256)))},
		{"a key of one more byte, last", versions(version("a", 1, ""), version(tooLongKey, 1, ""))},
		{"a value of one more byte, first", versions(version("a", 1, tooLong), version("b", 1, ""))},
	} {
		wantNoCommit(t, c.name, c.list, impl.ErrBad)
	}
	wantNoCommit(t, "more than MaxList", manyVersions(impl.MaxList+1), impl.ErrLong)
	wantNoCommit(t, "more than MaxList, none right", make([]impl.Version, impl.MaxList+1), impl.ErrLong)
	for _, c := range rightLists() {
		want, code := plainCommitBytes(c.list)
		if b, got := impl.CommitBytes(c.list); got != code || !bytes.Equal(b, want) {
			t.Errorf("%s: CommitBytes has code %d, want %d", c.name, got, code)
		}
	}
}

// Only a cut behind a write leaves a commit.
func TestCommitsCutAnywhere(t *testing.T) {
	writes := versions(version("a", 5, "xy"), goneAt("b", 5), version("c", 5, ""), version(longKey, 5, longValue), goneAt("z", 5))
	whole := plainBytes(writes)
	for end := range len(whole) + 1 {
		count := slices.IndexFunc([]int{0, 1, 2, 3, 4, 5}, func(n int) bool { return len(plainBytes(writes[:n])) == end })
		if count < 0 {
			wantNoWrites(t, "cut", whole[:end], 5, impl.ErrForm)
		} else if back, code := impl.ReadCommit(whole[:end], 5); code != impl.OK || !slices.Equal(back, writes[:count]) {
			t.Errorf("cut behind %d writes: ReadCommit has %v and code %d", count, back, code)
		}
		for from := 1; from < end; from += 7 {
			want, wantCode := plainReadCommit(whole[from:end], 5)
			if back, code := impl.ReadCommit(whole[from:end], 5); code != wantCode || !slices.Equal(back, want) {
				t.Errorf("from %d to %d: ReadCommit has code %d, want %d", from, end, code, wantCode)
			}
		}
	}
	for c := range 256 {
		wantNoWrites(t, "a byte behind", append(bytes.Clone(whole), byte(c)), 5, impl.ErrForm)
		wantNoWrites(t, "one byte alone", []byte{byte(c)}, 5, impl.ErrForm)
	}
}

func TestBytesThatAreNoCommit(t *testing.T) {
	for mark := range 256 {
		b := []byte{byte(mark), 1, 'a', 0}
		back, code := impl.ReadCommit(b, 3)
		switch {
		case mark == 1 && (code != impl.OK || !slices.Equal(back, versions(version("a", 3, "")))):
			t.Errorf("mark 1: %v, code %d", back, code)
		case mark == 2 && (code != impl.OK || !slices.Equal(back, versions(goneAt("a", 3)))):
			t.Errorf("mark 2: %v, code %d", back, code)
		case mark != 1 && mark != 2 && (code != impl.ErrForm || len(back) != 0):
			t.Errorf("mark %d: %v, code %d", mark, back, code)
		}
		if mark != 1 && mark != 2 {
			wantNoWrites(t, "a mark behind", append([]byte("\x01\x01A\x00"), b...), 3, impl.ErrForm)
		}
	}
	for name, b := range map[string]string{
		"Gone with a value":                    "\x02\x01b\x01x",
		"Gone with a value, behind another":    "\x01\x01a\x01x\x02\x01b\x01x",
		"no key":                               "\x01\x00\x01x",
		"no key, Gone":                         "\x02\x00\x00",
		"nothing at all":                       "\x01\x00\x00",
		"noughts":                              "\x00\x00\x00\x00",
		"a key that runs beyond the end":       "\x01\x02a",
		"a key that takes the value's length":  "\x01\x02a\x00",
		"a value that runs beyond the end":     "\x01\x01a\x02x",
		"a value that runs beyond by 255":      "\x01\x01a\xff",
		"no length of a value":                 "\x01\x01a",
		"a key of one byte too many":           "\x01\x29" + tooLongKey + "\x00",
		"a key of 255 bytes":                   "\x01\xff" + strings.Repeat("k", 255) + "\x00",
		"a value of one byte too many":         "\x01\x01a\x65" + tooLong,
		"a value of 255 bytes":                 "\x01\x01a\xff" + strings.Repeat("v", 255),
		"keys out of order":                    "\x01\x01b\x00\x01\x01a\x00",
		"keys out of order at last":            "\x01\x01a\x00\x01\x01c\x00\x01\x01b\x00",
		"a beginning behind":                   "\x01\x02aa\x00\x01\x01a\x00",
		"a key twice":                          "\x01\x01a\x00\x01\x01a\x00",
		"a key twice, with other values":       "\x01\x01a\x01x\x01\x01a\x01y",
		"a key twice, first Gone":              "\x02\x01a\x00\x01\x01a\x00",
		"one more than MaxWrites":              string(plainBytes(manyWrites(impl.MaxWrites+1, 3))),
		"far too many":                         string(plainBytes(manyVersions(2000))),
		"MaxText noughts":                      strings.Repeat("\x00", impl.MaxText),
		"MaxText bytes of a write":             strings.Repeat("\x01\x01a\x00", impl.MaxText/4),
		"MaxText bytes, the first write right": "\x01\x01a\x00" + strings.Repeat("\x01", impl.MaxText-4),
	} {
		wantNoWrites(t, name, []byte(b), 3, impl.ErrForm)
	}
}

// The codes of ReadCommit in their order.
func TestTimesOfACommit(t *testing.T) {
	right, wrong, long := []byte("\x01\x01a\x00"), []byte("\x03"), make([]byte, impl.MaxText+1)
	for _, time := range []int{math.MinInt, -65536, -1, impl.MaxId + 1, 65536, math.MaxInt} {
		wantNoWrites(t, "no time", nil, time, impl.ErrRange)
		wantNoWrites(t, "no time", right, time, impl.ErrRange)
		wantNoWrites(t, "no time, no commit", wrong, time, impl.ErrRange)
		wantNoWrites(t, "no time, too long", long, time, impl.ErrLong)
		wantNoWrites(t, "no time, MaxText bytes", long[1:], time, impl.ErrRange)
	}
	for _, time := range []int{0, 1, impl.MaxId} {
		wantCommit(t, "a time", versions(version("a", time, "")), time, string(right))
		wantNoWrites(t, "no commit", wrong, time, impl.ErrForm)
		wantNoWrites(t, "too long", long, time, impl.ErrLong)
	}
}

// someWrites are those of a commit, mostly.
func someWrites(next func() uint64, time int) []impl.Version {
	var list []impl.Version
	for range next() % 10 {
		w := version(versionKey(next), time, "")
		if next()%4 > 0 {
			w.Value = strings.Repeat("v", int(next()%30))
		} else {
			w.Gone = true
		}
		list = append(list, w)
	}
	slices.SortFunc(list, plainVersionOrder)
	list = slices.CompactFunc(list, func(a, b impl.Version) bool { return a.Key == b.Key })
	if next()%8 == 0 && len(list) > 0 {
		turnVersion(next, time, list)
	}
	return list
}

func TestCommitsAsTheDocumentSays(t *testing.T) {
	next := numbers(67)
	codes := map[int]int{}
	for range 3000 {
		time := int(next()%(impl.MaxId+3)) - 1
		writes := someWrites(next, time)
		want, wantCode := plainCommitBytes(writes)
		b, code := impl.CommitBytes(writes)
		if code != wantCode || !bytes.Equal(b, want) {
			t.Fatalf("CommitBytes of %v has code %d, want %d", writes, code, wantCode)
		}
		codes[code]++
		raw := plainBytes(writes)
		for range next() % 3 {
			if len(raw) > 0 {
				raw[next()%uint64(len(raw))] ^= byte(1 << (next() % 8))
			}
		}
		wantBack, wantCode := plainReadCommit(raw, time)
		back, code := impl.ReadCommit(raw, time)
		if code != wantCode || !slices.Equal(back, wantBack) {
			t.Fatalf("ReadCommit of %q has code %d, want %d", raw, code, wantCode)
		}
		codes[100+code]++
	}
	for _, c := range []int{impl.OK, impl.ErrBad, 100 + impl.OK, 100 + impl.ErrForm} {
		if codes[c] < 100 {
			t.Errorf("codes %v are seen too seldom", codes)
		}
	}
}
