package tests

import (
	"math"
	"slices"
	"testing"

	"loop.example/g00163/impl"
)

func TestPruneOfVersions(t *testing.T) {
	list := versions(version("a", 1, "a1"), version("a", 3, "a3"), goneAt("a", 5), version("a", 7, "a7"), goneAt("b", 2), version("c", 0, "c0"), goneAt("c", 6), version("d", 4, "d4"), version("d", 8, "d8"))
	for _, c := range []struct {
		name string
		time int
		left []int
	}{
		{"the least integer", math.MinInt, []int{0, 1, 2, 3, 4, 5, 6, 7, 8}},
		{"below 0", -1, []int{0, 1, 2, 3, 4, 5, 6, 7, 8}},
		{"ahead of nearly all", 0, []int{0, 1, 2, 3, 4, 5, 6, 7, 8}},
		{"at the first of a key", 1, []int{0, 1, 2, 3, 4, 5, 6, 7, 8}},
		{"at one that is Gone, alone", 2, []int{0, 1, 2, 3, 5, 6, 7, 8}},
		{"at the second of a key", 3, []int{1, 2, 3, 5, 6, 7, 8}},
		{"between", 4, []int{1, 2, 3, 5, 6, 7, 8}},
		{"at one that is Gone, not last", 5, []int{3, 5, 6, 7, 8}},
		{"at one that is Gone, last", 6, []int{3, 7, 8}},
		{"behind one that is Gone", 7, []int{3, 7, 8}},
		{"at the last of all", 8, []int{3, 8}},
		{"behind all", 9, []int{3, 8}},
		{"one ahead of Next", 10, []int{3, 8}},
	} {
		var left []impl.Version
		for _, i := range c.left {
			left = append(left, list[i])
		}
		wantPrune(t, c.name, storeOf(11, list, nil), c.time, storeOf(11, left, nil))
	}
	all := storeOf(11, versions(goneAt("a", 1), goneAt("b", 2), version("c", 1, ""), goneAt("c", 3)), nil)
	wantPrune(t, "all Gone", all, 3, storeOf(11, nil, nil))
	wantPrune(t, "nothing", storeOf(1, nil, nil), 0, storeOf(1, nil, nil))
	wantPrune(t, "MaxList", storeOf(9, manyVersions(impl.MaxList), nil), 8, storeOf(9, manyVersions(impl.MaxList), nil))
}

// A time is before all open sessions', or before Next where none is open.
func TestTimesOfAPrune(t *testing.T) {
	for _, c := range []struct {
		name  string
		v     impl.Versions
		limit int
	}{
		{"nothing", storeOf(1, nil, nil), 1},
		{"Next MaxId, none open", storeOf(impl.MaxId, nil, nil), impl.MaxId},
		{"none open", storeOf(9, busy().List, busy().Fences), 9},
		{"one open", storeOf(9, nil, nil, openAt(5)), 5},
		{"one open at 1", storeOf(9, nil, nil, openAt(1)), 1},
		{"one open at last", storeOf(9, nil, nil, impl.Session{}, impl.Session{}, impl.Session{}, openAt(8)), 8},
		{"the first is the earliest", storeOf(9, nil, nil, openAt(3), openAt(8), openAt(4)), 3},
		{"the last is the earliest", storeOf(9, nil, nil, openAt(8), openAt(7), openAt(6), openAt(2)), 2},
		{"one between is the earliest", storeOf(9, nil, nil, openAt(8), openAt(4), impl.Session{}, openAt(6)), 4},
		{"busy", busy(), 4},
	} {
		for _, time := range []int{math.MinInt, -1, 0, c.limit - 2, c.limit - 1} {
			want, _ := plainPrune(c.v, time)
			wantPrune(t, c.name, c.v, time, want)
		}
		for _, time := range []int{c.limit, c.limit + 1, c.v.Next, c.v.Next + 1, impl.MaxId, impl.MaxId + 1, math.MaxInt} {
			wantNoPrune(t, c.name, c.v, time, impl.ErrState)
		}
	}
}

// Fences go that are not later than any open session, in whatever place they stand.
func TestFencesOfAPrune(t *testing.T) {
	all := fences(fence("a", "b", 5), fence("a", "", 3), fence("", "b", 8), fence("x", "y", 4), fence("a", "b", 5), fence("m", "n", 1), fence("q", "r", 6))
	for _, c := range []struct {
		name string
		open []int
		from int
	}{
		{"none open", nil, math.MaxInt},
		{"one at 1", []int{1}, 2},
		{"one at 3", []int{3}, 4},
		{"one at 5", []int{5}, 6},
		{"one at 8", []int{8}, 9},
		{"several", []int{8, 4, 6}, 5},
		{"several, the earliest first", []int{2, 8}, 3},
		{"four", []int{7, 6, 8, 5}, 6},
	} {
		var sessions []impl.Session
		for _, time := range c.open {
			sessions = append(sessions, openAt(time, version("w", time, "")))
		}
		var left []impl.Fence
		for _, f := range all {
			if f.Time >= c.from {
				left = append(left, f)
			}
		}
		for _, time := range []int{math.MinInt, -1, 0} {
			wantPrune(t, c.name, storeOf(9, nil, slices.Clone(all), sessions...), time, storeOf(9, nil, left, sessions...))
		}
	}
}

// Nothing that an open or a later session sees changes by a prune, nor who conflicts.
func TestPruneChangesNothingThatIsSeen(t *testing.T) {
	next := numbers(41)
	pruned := 0
	for range 60 {
		v := storeOf(1, nil, nil)
		for range 120 {
			v, _, _ = plainTxStep(v, someTxAct(next, v))
		}
		limit := horizonOf(v)
		for _, time := range []int{-1, limit / 2, limit - 1} {
			left, code := impl.Prune(v, time)
			if code != impl.OK {
				t.Fatalf("Prune at %d has code %d", time, code)
			}
			want, _ := plainPrune(v, time)
			wantVersions(t, "pruned", left, want)
			if len(left.List) < len(v.List) && len(left.Fences) < len(v.Fences) {
				pruned++
			}
			for at := time; at <= v.Next; at++ {
				wantEntriesAt(t, "pruned", left.List, at, plainVersionEntries(v.List, at))
			}
			one, other := own(v, 0).(impl.Versions), left
			for range 60 {
				a := someTxAct(next, one)
				var wantReply, reply impl.TxReply
				one, wantReply, _ = plainTxStep(one, a)
				other, reply, _ = impl.TxStep(other, a)
				if !alike(reply, wantReply) {
					t.Fatalf("an act of Kind %d has another reply behind a prune at %d: %v, want %v", a.Kind, time, reply, wantReply)
				}
			}
		}
	}
	if pruned < 60 {
		t.Errorf("only %d prunes took something", pruned)
	}
}

// horizonOf is the time up to which no prune may come.
func horizonOf(v impl.Versions) int {
	limit := v.Next
	for _, s := range v.Sessions {
		if s.Open {
			limit = min(limit, s.Time)
		}
	}
	return limit
}
