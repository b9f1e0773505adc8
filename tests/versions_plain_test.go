package tests

import (
	"cmp"
	"slices"
	"strings"

	"loop.example/g00163/impl"
)

// What follows says of versions and sessions what the document says, version
// by version and each time anew, as the program does not.

func plainVersionOrder(a, b impl.Version) int {
	if a.Key != b.Key {
		return strings.Compare(a.Key, b.Key)
	}
	return cmp.Compare(a.Time, b.Time)
}

func plainListOK(list []impl.Version) bool {
	for _, x := range list {
		if !plainKey(x.Key) || len(x.Value) > impl.MaxValue || x.Gone && x.Value != "" || x.Time < 0 || x.Time > impl.MaxId {
			return false
		}
	}
	sorted := slices.Clone(list)
	slices.SortFunc(sorted, plainVersionOrder)
	once := slices.CompactFunc(slices.Clone(sorted), func(a, b impl.Version) bool { return a.Key == b.Key && a.Time == b.Time })
	return slices.Equal(sorted, list) && len(once) == len(list)
}

func plainVersionsOK(v impl.Versions) bool {
	if v.Next < 1 || v.Next > impl.MaxId || len(v.List) > impl.MaxList || len(v.Fences) > impl.MaxList || len(v.Sessions) != impl.MaxSessions {
		return false
	}
	var times []int
	for _, f := range v.Fences {
		if len(f.From) > impl.MaxEntry || len(f.To) > impl.MaxEntry+1 {
			return false
		}
		times = append(times, f.Time)
	}
	for _, s := range v.Sessions {
		if !s.Open && (s.Time != 0 || len(s.Writes) > 0) || len(s.Writes) > impl.MaxWrites || !plainListOK(s.Writes) {
			return false
		}
		for _, w := range s.Writes {
			if w.Time != s.Time {
				return false
			}
		}
		if s.Open {
			times = append(times, s.Time)
		}
	}
	if !allOf(times, func(t int) bool { return t >= 1 && t < v.Next }) {
		return false
	}
	return plainListOK(v.List) && !slices.ContainsFunc(v.List, func(x impl.Version) bool { return x.Time >= v.Next })
}

// plainAt is the version of a key with the greatest Time that is not later.
func plainAt(list []impl.Version, key string, time int) (impl.Version, bool) {
	last, found := impl.Version{}, false
	for _, x := range list {
		if x.Key == key && x.Time <= time && (!found || x.Time > last.Time) {
			last, found = x, true
		}
	}
	if last.Gone {
		return impl.Version{}, false
	}
	return last, found
}

func plainVersionEntries(list []impl.Version, time int) []impl.Entry {
	var all []impl.Entry
	for i, x := range list {
		first := !slices.ContainsFunc(list[:i], func(y impl.Version) bool { return y.Key == x.Key })
		if at, found := plainAt(list, x.Key, time); first && found {
			all = append(all, impl.Entry{Key: x.Key, Value: at.Value})
		}
	}
	return all
}

// plainSeen are the entries that a session sees: those at its Time, with each
// of its Writes put or dropped.
func plainSeen(v impl.Versions, s impl.Session) []impl.Entry {
	all := plainVersionEntries(v.List, s.Time)
	for _, w := range s.Writes {
		all = slices.DeleteFunc(all, func(e impl.Entry) bool { return e.Key == w.Key })
		if !w.Gone {
			all = append(all, impl.Entry{Key: w.Key, Value: w.Value})
		}
	}
	slices.SortFunc(all, func(a, b impl.Entry) int { return strings.Compare(a.Key, b.Key) })
	return all
}

// plainTx is the reply to an act on right Versions, which it changes.
func plainTx(v *impl.Versions, a impl.TxAct) impl.TxReply {
	if a.Kind < impl.TxBegin || a.Kind > impl.TxAbort {
		return impl.TxReply{Code: impl.ErrForm}
	}
	if a.Session != 0 && a.Session != 1 && a.Session != 2 && a.Session != 3 {
		return impl.TxReply{Code: impl.ErrRange}
	}
	s := &v.Sessions[a.Session]
	switch {
	case a.Kind == impl.TxBegin && s.Open:
		return impl.TxReply{Code: impl.ErrState}
	case a.Kind == impl.TxBegin && v.Next == impl.MaxId:
		return impl.TxReply{Code: impl.ErrFull}
	case a.Kind == impl.TxBegin:
		s.Open, s.Time = true, v.Next
		v.Next++
		return impl.TxReply{Time: s.Time}
	case !s.Open:
		return impl.TxReply{Code: impl.ErrClosed}
	case a.Kind == impl.TxScan && (len(a.Key) > impl.MaxEntry || len(a.To) > impl.MaxEntry):
		return impl.TxReply{Code: impl.ErrSize, Time: s.Time}
	case slices.Contains([]int{impl.TxGet, impl.TxPut, impl.TxDrop}, a.Kind) && (!plainKey(a.Key) || len(a.Value) > impl.MaxValue):
		return impl.TxReply{Code: impl.ErrSize, Time: s.Time}
	case a.Kind == impl.TxGet || a.Kind == impl.TxScan:
		return plainLook(v, *s, a)
	case a.Kind == impl.TxPut || a.Kind == impl.TxDrop:
		return plainTxWrite(s, a)
	}
	reply := impl.TxReply{Time: s.Time}
	if a.Kind == impl.TxCommit && plainConflict(*v, *s) {
		reply.Code = impl.ErrConflict
	} else if a.Kind == impl.TxCommit {
		plainCommit(v, *s)
	}
	*s = impl.Session{}
	return reply
}

func plainLook(v *impl.Versions, s impl.Session, a impl.TxAct) impl.TxReply {
	from, to := a.Key, a.To
	if a.Kind == impl.TxGet {
		to = a.Key + string([]byte{0})
	}
	if len(v.Fences) >= impl.MaxList {
		return impl.TxReply{Code: impl.ErrFull}
	}
	v.Fences = append(v.Fences, impl.Fence{From: from, To: to, Time: s.Time})
	var seen []impl.Entry
	for _, e := range plainSeen(*v, s) {
		if plainWithin(from, to, e.Key) {
			seen = append(seen, e)
		}
	}
	if a.Kind == impl.TxScan {
		return impl.TxReply{Time: s.Time, List: seen}
	}
	// Between a key and it with a byte 0 stands no other.
	if len(seen) == 0 {
		return impl.TxReply{Code: impl.ErrNone, Time: s.Time}
	}
	return impl.TxReply{Time: s.Time, Value: seen[0].Value}
}

func plainTxWrite(s *impl.Session, a impl.TxAct) impl.TxReply {
	w := impl.Version{Key: a.Key, Time: s.Time, Gone: a.Kind == impl.TxDrop}
	if !w.Gone {
		w.Value = a.Value
	}
	others := slices.DeleteFunc(slices.Clone(s.Writes), func(x impl.Version) bool { return x.Key == a.Key })
	if len(others) == impl.MaxWrites {
		return impl.TxReply{Code: impl.ErrFull, Time: s.Time}
	}
	s.Writes = append(others, w)
	slices.SortFunc(s.Writes, plainVersionOrder)
	return impl.TxReply{Time: s.Time}
}

// plainConflict tells whether somebody later wrote or looked at what a session wrote.
func plainConflict(v impl.Versions, s impl.Session) bool {
	for _, w := range s.Writes {
		for _, x := range v.List {
			if x.Key == w.Key && x.Time > s.Time {
				return true
			}
		}
		for _, f := range v.Fences {
			if f.Time > s.Time && plainWithin(f.From, f.To, w.Key) {
				return true
			}
		}
	}
	return false
}

func plainCommit(v *impl.Versions, s impl.Session) {
	for _, w := range s.Writes {
		v.List = slices.DeleteFunc(v.List, func(x impl.Version) bool { return x.Key == w.Key && x.Time == w.Time })
	}
	v.List = append(v.List, s.Writes...)
	slices.SortFunc(v.List, plainVersionOrder)
}

func plainTxStep(v impl.Versions, a impl.TxAct) (impl.Versions, impl.TxReply, int) {
	if max(len(a.Key), len(a.To), len(a.Value)) > impl.MaxText {
		return impl.Versions{}, impl.TxReply{}, impl.ErrLong
	}
	if !plainVersionsOK(v) {
		return impl.Versions{}, impl.TxReply{}, impl.ErrBad
	}
	next := own(v, 0).(impl.Versions)
	reply := plainTx(&next, a)
	return next, reply, impl.OK
}

func plainPrune(v impl.Versions, time int) (impl.Versions, int) {
	if !plainVersionsOK(v) {
		return impl.Versions{}, impl.ErrBad
	}
	next := own(v, 0).(impl.Versions)
	next.List, next.Fences = nil, nil
	var times []int
	for _, s := range v.Sessions {
		if s.Open {
			times = append(times, s.Time)
		}
	}
	before := func(t int) bool { return time < t }
	if len(times) == 0 && time >= v.Next || !allOf(times, before) {
		return impl.Versions{}, impl.ErrState
	}
	for _, x := range v.List {
		followed := slices.ContainsFunc(v.List, func(y impl.Version) bool { return y.Key == x.Key && y.Time > x.Time && y.Time <= time })
		if x.Time > time || !followed && !x.Gone {
			next.List = append(next.List, x)
		}
	}
	for _, f := range v.Fences {
		if !allOf(times, func(t int) bool { return f.Time <= t }) {
			next.Fences = append(next.Fences, f)
		}
	}
	return next, impl.OK
}

func allOf(list []int, holds func(int) bool) bool {
	return !slices.ContainsFunc(list, func(n int) bool { return !holds(n) })
}
