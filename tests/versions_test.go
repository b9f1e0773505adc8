package tests

import (
	"math"
	"slices"
	"strings"
	"testing"

	"loop.example/g00163/impl"
)

func TestVersionsConstants(t *testing.T) {
	if impl.MaxSessions != 4 || impl.MaxWrites != 8 || impl.MaxScript != 150 {
		t.Error("limits", impl.MaxSessions, impl.MaxWrites, impl.MaxScript)
	}
	if impl.TxBegin != 1 || impl.TxGet != 2 || impl.TxScan != 3 || impl.TxPut != 4 || impl.TxDrop != 5 || impl.TxCommit != 6 || impl.TxAbort != 7 {
		t.Error("kinds")
	}
}

func wantVersionAt(t *testing.T, what string, list []impl.Version, key string, time int, want impl.Version, code int) {
	t.Helper()
	if got, c := impl.VersionAt(list, key, time); got != want || c != code {
		t.Errorf("%s: VersionAt %q, %d is %v with code %d, want %v with code %d", what, shorten(key), time, got, c, want, code)
	}
}

func wantEntriesAt(t *testing.T, what string, list []impl.Version, time int, want []impl.Entry) {
	t.Helper()
	if got, code := impl.EntriesAt(list, time); code != impl.OK || !slices.Equal(got, want) {
		t.Errorf("%s: EntriesAt %d are %v with code %d, want %v", what, time, got, code, want)
	}
}

func TestVersionAtATime(t *testing.T) {
	list := versions(version("a", 2, "a2"), version("a", 5, "a5"), goneAt("a", 7), version("a", 9, ""), goneAt("b", 3), version("c", 0, "c0"), version("c", impl.MaxId, "last"), version("d", 4, "d4"), goneAt("d", 6))
	none := impl.Version{}
	for _, c := range []struct {
		name, key string
		time      int
		want      impl.Version
		code      int
	}{
		{"the least integer", "a", math.MinInt, none, impl.ErrNone},
		{"below 0", "a", -1, none, impl.ErrNone},
		{"ahead of all", "a", 1, none, impl.ErrNone},
		{"at the first", "a", 2, list[0], impl.OK},
		{"between two", "a", 3, list[0], impl.OK},
		{"just ahead of one", "a", 4, list[0], impl.OK},
		{"at another one", "a", 5, list[1], impl.OK},
		{"just ahead of one that is Gone", "a", 6, list[1], impl.OK},
		{"at one that is Gone", "a", 7, none, impl.ErrNone},
		{"behind one that is Gone", "a", 8, none, impl.ErrNone},
		{"at the last, without a value", "a", 9, list[3], impl.OK},
		{"behind the last", "a", 10, list[3], impl.OK},
		{"at MaxId", "a", impl.MaxId, list[3], impl.OK},
		{"beyond MaxId", "a", impl.MaxId + 1, list[3], impl.OK},
		{"the greatest integer", "a", math.MaxInt, list[3], impl.OK},
		{"Gone at once", "b", 3, none, impl.ErrNone},
		{"Gone at once, behind all", "b", math.MaxInt, none, impl.ErrNone},
		{"below Time 0", "c", -1, none, impl.ErrNone},
		{"Time 0", "c", 0, list[5], impl.OK},
		{"just ahead of MaxId", "c", impl.MaxId - 1, list[5], impl.OK},
		{"Time MaxId", "c", impl.MaxId, list[6], impl.OK},
		{"behind Time MaxId", "c", math.MaxInt, list[6], impl.OK},
		{"ahead of a last one that is Gone", "d", 5, list[7], impl.OK},
		{"a last one that is Gone", "d", math.MaxInt, none, impl.ErrNone},
		{"a key between", "ab", 9, none, impl.ErrNone},
		{"a key with a byte more", "a\x00", 9, none, impl.ErrNone},
		{"a key behind all", "z", 9, none, impl.ErrNone},
		{"no key", "", 9, none, impl.ErrNone},
		{"a key of MaxEntry bytes", longKey, 9, none, impl.ErrNone},
		{"what is longer than a key", tooLongKey, 9, none, impl.ErrNone},
		{"a text of MaxText bytes", strings.Repeat("a", impl.MaxText), 9, none, impl.ErrNone},
		{"a text of more than MaxText bytes", strings.Repeat("a", impl.MaxText+1), 9, none, impl.ErrLong},
	} {
		wantVersionAt(t, c.name, list, c.key, c.time, c.want, c.code)
	}
	wantVersionAt(t, "of nothing", nil, "a", 1, none, impl.ErrNone)
}

func TestEntriesAtATime(t *testing.T) {
	list := versions(version("a", 2, "a2"), goneAt("a", 5), version("a", 6, "a6"), version("b", 3, ""), version("b", 4, "b4"), goneAt("c", 1), version("d", impl.MaxId, "d"))
	for _, c := range []struct {
		name string
		time int
		want []impl.Entry
	}{
		{"the least integer", math.MinInt, nil},
		{"below 0", -1, nil},
		{"0", 0, nil},
		{"only one that is Gone", 1, nil},
		{"at the first", 2, entriesOf("a=a2")},
		{"one without a value", 3, entriesOf("a=a2", "b=")},
		{"a later one of a key", 4, entriesOf("a=a2", "b=b4")},
		{"at one that is Gone", 5, entriesOf("b=b4")},
		{"there again", 6, entriesOf("a=a6", "b=b4")},
		{"between", 7, entriesOf("a=a6", "b=b4")},
		{"just ahead of MaxId", impl.MaxId - 1, entriesOf("a=a6", "b=b4")},
		{"at MaxId", impl.MaxId, entriesOf("a=a6", "b=b4", "d=d")},
		{"the greatest integer", math.MaxInt, entriesOf("a=a6", "b=b4", "d=d")},
	} {
		wantEntriesAt(t, c.name, list, c.time, c.want)
	}
	wantEntriesAt(t, "of nothing", nil, 1, nil)
}

func TestRightLists(t *testing.T) {
	for _, c := range rightLists() {
		if !plainListOK(c.list) {
			t.Errorf("%s: not right in the tests themselves", c.name)
		}
		keys := []string{"a", "b", "c", "z", "\xff", longKey}
		if len(c.list) > 0 {
			keys = append(keys, c.list[len(c.list)/2].Key)
		}
		for _, time := range []int{-1, 0, 1, 2, 3, 4, 5, impl.MaxId - 1, impl.MaxId, math.MaxInt} {
			for _, key := range keys {
				want, found := plainAt(c.list, key, time)
				code := impl.OK
				if !found {
					code = impl.ErrNone
				}
				wantVersionAt(t, c.name, c.list, key, time, want, code)
			}
			// Of a list of MaxList the plain way takes its time.
			if len(c.list) < 999 || time == 0 {
				wantEntriesAt(t, c.name, c.list, time, plainVersionEntries(c.list, time))
			}
		}
	}
	if all, code := impl.EntriesAt(manyVersions(impl.MaxList), 1); code != impl.OK || len(all) != impl.MaxList {
		t.Errorf("%d entries of MaxList versions, code %d", len(all), code)
	}
}

func TestWrongLists(t *testing.T) {
	tooLongText := strings.Repeat("a", impl.MaxText+1)
	for _, c := range wrongLists() {
		if plainListOK(c.list) {
			t.Errorf("%s: right in the tests themselves", c.name)
		}
		for _, time := range []int{math.MinInt, -1, 0, 1, impl.MaxId, math.MaxInt} {
			for _, key := range []string{"", "a", "b", "z", tooLongKey, tooLongText[1:]} {
				wantVersionAt(t, c.name, c.list, key, time, impl.Version{}, impl.ErrBad)
			}
			wantVersionAt(t, c.name, c.list, tooLongText, time, impl.Version{}, impl.ErrLong)
			if got, code := impl.EntriesAt(c.list, time); code != impl.ErrBad || len(got) != 0 {
				t.Errorf("%s: EntriesAt %d are %v with code %d", c.name, time, got, code)
			}
		}
	}
}

// A list that is too long is so ahead of all that is wrong in it.
func TestListsThatAreTooLong(t *testing.T) {
	for _, list := range [][]impl.Version{manyVersions(impl.MaxList + 1), make([]impl.Version, impl.MaxList+1), slices.Repeat(versions(version("a", 1, "")), 2*impl.MaxList)} {
		for _, key := range []string{"a", "", tooLongKey, strings.Repeat("a", impl.MaxText+1)} {
			wantVersionAt(t, "too long", list, key, 1, impl.Version{}, impl.ErrLong)
		}
		if got, code := impl.EntriesAt(list, 1); code != impl.ErrLong || len(got) != 0 {
			t.Errorf("EntriesAt of %d versions has code %d", len(list), code)
		}
	}
}

func TestRightVersions(t *testing.T) {
	for _, c := range rightVersions() {
		if !impl.VersionsOK(c.Versions) {
			t.Errorf("%s: not right", c.name)
		}
		if !plainVersionsOK(c.Versions) {
			t.Errorf("%s: not right in the tests themselves", c.name)
		}
		wantIdle(t, c.name, c.Versions, txAct(0, 0), impl.TxReply{Code: impl.ErrForm})
		if len(c.List) < 999 {
			want, code := plainPrune(c.Versions, 0)
			if code != impl.OK {
				t.Fatalf("%s: code %d in the tests themselves", c.name, code)
			}
			wantPrune(t, c.name, c.Versions, 0, want)
		}
	}
}

// Each call says ErrBad of Versions that are not right, whatever else is wrong;
// but for texts of an act that are too long.
func TestWrongVersions(t *testing.T) {
	for _, c := range wrongVersions() {
		if impl.VersionsOK(c.Versions) {
			t.Errorf("%s: right", c.name)
		}
		if plainVersionsOK(c.Versions) {
			t.Errorf("%s: right in the tests themselves", c.name)
		}
		for kind := -1; kind <= 8; kind++ {
			for _, session := range []int{math.MinInt, -1, 0, 3, 4, math.MaxInt} {
				wantNoTx(t, c.name, c.Versions, txAct(kind, session), impl.ErrBad)
			}
			for _, a := range overlongActs(kind, 0) {
				wantNoTx(t, c.name, c.Versions, a, impl.ErrLong)
			}
			wantNoTx(t, c.name, c.Versions, longAct(kind, 0), impl.ErrBad)
		}
		for _, time := range []int{math.MinInt, -1, 0, 1, 4, 9, math.MaxInt} {
			wantNoPrune(t, c.name, c.Versions, time, impl.ErrBad)
		}
	}
}

// longAct has a text of MaxText bytes in each field.
func longAct(kind, session int) impl.TxAct {
	text := strings.Repeat("t", impl.MaxText)
	return impl.TxAct{Kind: kind, Session: session, Key: text, To: text, Value: text}
}

// overlongActs have one text, or all, of one byte more.
func overlongActs(kind, session int) []impl.TxAct {
	text := strings.Repeat("t", impl.MaxText+1)
	return []impl.TxAct{
		{Kind: kind, Session: session, Key: text},
		{Kind: kind, Session: session, Key: "k", To: text},
		{Kind: kind, Session: session, Key: "k", Value: text},
		{Kind: kind, Session: session, Key: text, To: text, Value: text},
	}
}
