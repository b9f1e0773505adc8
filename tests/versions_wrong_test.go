package tests

import (
	"math"
	"slices"
	"strconv"
	"strings"

	"loop.example/g00163/impl"
)

type namedVersions struct {
	name string
	impl.Versions
}

func rightVersions() []namedVersions {
	list := []namedVersions{
		{"nothing", storeOf(1, nil, nil)},
		{"nothing, lists that are not nil", storeOf(1, []impl.Version{}, []impl.Fence{}, impl.Session{Writes: []impl.Version{}})},
		{"Next MaxId", storeOf(impl.MaxId, nil, nil)},
		{"busy", busy()},
		{"a version of Time 0 at Next 1", storeOf(1, versions(version("a", 0, "x")), nil)},
		{"a version of Time Next - 1", storeOf(7, versions(version("a", 6, "x"), goneAt("b", 6)), nil)},
		{"a version of Time MaxId - 1", storeOf(impl.MaxId, versions(version("a", impl.MaxId-1, "x")), nil)},
		{"a fence of MaxEntry bytes", storeOf(2, nil, fences(fence(longKey, "", 1)))},
		{"a fence to MaxEntry + 1 bytes", storeOf(2, nil, fences(fence(longKey, longKey+"\x00", 1)))},
		{"a fence to any MaxEntry + 1 bytes", storeOf(2, nil, fences(fence("", tooLongKey, 1)))},
		{"a fence without bounds", storeOf(2, nil, fences(fence("", "", 1)))},
		{"a fence that is turned round", storeOf(2, nil, fences(fence("z", "a", 1)))},
		{"fences of Times 1 and Next - 1, twice, in no order", storeOf(9, nil, fences(fence("a", "b", 8), fence("a", "b", 1), fence("a", "b", 8)))},
		{"a fence of Time MaxId - 1", storeOf(impl.MaxId, nil, fences(fence("a", "b", impl.MaxId-1)))},
		{"List of MaxList", storeOf(2, manyVersions(impl.MaxList), nil)},
		{"Fences of MaxList", storeOf(2, nil, manyFences(impl.MaxList))},
		{"both of MaxList, four open", storeOf(2, manyVersions(impl.MaxList), manyFences(impl.MaxList), openAt(1), openAt(1), openAt(1), openAt(1, manyWrites(impl.MaxWrites, 1)...))},
		{"an open session of Time 1", storeOf(2, nil, nil, openAt(1))},
		{"open sessions of Times 1 and Next - 1", storeOf(9, nil, nil, openAt(8), impl.Session{}, impl.Session{}, openAt(1))},
		{"an open session of Time MaxId - 1", storeOf(impl.MaxId, nil, nil, openAt(impl.MaxId-1))},
		{"MaxWrites Writes", storeOf(9, nil, nil, openAt(3, manyWrites(impl.MaxWrites, 3)...))},
		{"Writes that are Gone", storeOf(9, nil, nil, openAt(3, goneAt("a", 3), goneAt("b", 3)))},
		{"Writes of all sizes", storeOf(9, nil, nil, openAt(3, version("\x00", 3, ""), version(longKey, 3, longValue)))},
		{"two sessions of one Time", storeOf(9, nil, nil, openAt(3, version("a", 3, "x")), openAt(3, version("a", 3, "y")))},
		{"a Write of a Key and Time that List has", storeOf(9, versions(version("a", 3, "x")), nil, openAt(3, version("a", 3, "y")))},
	}
	for _, c := range rightLists() {
		// Beside MaxId all these Times are below the greatest Next.
		if !slices.ContainsFunc(c.list, func(x impl.Version) bool { return x.Time == impl.MaxId }) {
			list = append(list, namedVersions{"List: " + c.name, storeOf(impl.MaxId, c.list, nil)})
		}
	}
	return list
}

// turnedVersions are busy ones with something turned in them.
func turnedVersions(name string, turn func(v *impl.Versions)) namedVersions {
	v := busy()
	turn(&v)
	return namedVersions{name, v}
}

// wrongVersions each have one fault.
func wrongVersions() []namedVersions {
	list := slices.Concat(wrongNexts(), wrongFences(), wrongSessions())
	for _, c := range wrongLists() {
		list = append(list, namedVersions{"List: " + c.name, storeOf(impl.MaxId, c.list, nil)})
		// As Writes they would be wrong by their Times alone.
		ofOne := own(c.list, 0).([]impl.Version)
		for i := range ofOne {
			if ofOne[i].Time >= 0 && ofOne[i].Time <= impl.MaxId {
				ofOne[i].Time = 3
			}
		}
		if len(ofOne) <= impl.MaxWrites && !plainListOK(ofOne) {
			list = append(list, namedVersions{"Writes: " + c.name, storeOf(9, nil, nil, openAt(3, ofOne...))})
		}
	}
	return list
}

func wrongNexts() []namedVersions {
	list := []namedVersions{
		{"zero", impl.Versions{}},
		{"no sessions", impl.Versions{Next: 1}},
		turnedVersions("a version of Time Next", func(v *impl.Versions) { v.List[6].Time = 9 }),
		turnedVersions("a version of Time Next that is not last", func(v *impl.Versions) { v.List[3].Time = 9 }),
		turnedVersions("a version of Time Next that is Gone", func(v *impl.Versions) { v.List[5].Time = 9 }),
		{"a version of Time 1 at Next 1", storeOf(1, versions(version("a", 1, "x")), nil)},
		{"a version of Time MaxId", storeOf(impl.MaxId, versions(version("a", impl.MaxId, "x")), nil)},
		{"List of one more than MaxList", storeOf(2, manyVersions(impl.MaxList+1), nil)},
		{"Fences of one more than MaxList", storeOf(2, nil, manyFences(impl.MaxList+1))},
	}
	for _, n := range []int{math.MinInt, -1, 0, impl.MaxId + 1, math.MaxInt} {
		list = append(list, namedVersions{"Next " + strconv.Itoa(n), storeOf(n, nil, nil)})
		list = append(list, turnedVersions("busy, Next "+strconv.Itoa(n), func(v *impl.Versions) { v.Next = n }))
	}
	return list
}

func wrongFences() []namedVersions {
	in := func(name string, f impl.Fence) []namedVersions {
		return []namedVersions{
			turnedVersions("a fence "+name+", first", func(v *impl.Versions) { v.Fences[0] = f }),
			turnedVersions("a fence "+name+", last", func(v *impl.Versions) { v.Fences[4] = f }),
			{"a fence " + name + ", alone", storeOf(9, nil, fences(f))},
		}
	}
	list := slices.Concat(
		in("from more than MaxEntry bytes", fence(tooLongKey, "", 1)),
		in("from far too many bytes", fence(strings.Repeat("a", impl.MaxText+1), "", 1)),
		in("to more than MaxEntry + 1 bytes", fence("", tooLongKey+"\x00", 1)),
		in("to far too many bytes", fence("", strings.Repeat("a", impl.MaxText+1), 1)),
	)
	for _, n := range []int{math.MinInt, -1, 0, 9, 10, impl.MaxId, math.MaxInt} {
		list = append(list, in("of Time "+strconv.Itoa(n), fence("a", "b", n))...)
	}
	return list
}

func wrongSessions() []namedVersions {
	in := func(name string, s impl.Session) []namedVersions {
		return []namedVersions{
			turnedVersions("a session "+name+", first", func(v *impl.Versions) { v.Sessions[0] = s }),
			turnedVersions("a session "+name+", last", func(v *impl.Versions) { v.Sessions[3] = s }),
			{"a session " + name + ", alone", storeOf(9, nil, nil, s)},
		}
	}
	list := slices.Concat(
		in("with one more than MaxWrites Writes", openAt(3, manyWrites(impl.MaxWrites+1, 3)...)),
		in("with a key twice", openAt(3, version("a", 3, ""), version("a", 3, "x"))),
		in("with a key twice, of other Times", openAt(3, version("a", 2, ""), version("a", 3, "x"))),
		in("with a Write of an earlier Time", openAt(3, version("a", 2, ""))),
		in("with a Write of a later Time", openAt(3, version("a", 4, ""))),
		in("with a Write of another Time at last", openAt(3, version("a", 3, ""), version("b", 2, ""))),
		in("with a Write of another Time at first", openAt(3, version("a", 4, ""), version("b", 3, ""))),
		in("with Writes out of order", openAt(3, version("b", 3, ""), version("a", 3, ""))),
		in("that is not open with a Time", impl.Session{Time: 1}),
		in("that is not open with a Time below 0", impl.Session{Time: -1}),
		in("that is not open with Writes", impl.Session{Writes: versions(version("a", 0, ""))}),
		in("that is not open with all of one that is", impl.Session{Time: 3, Writes: versions(version("a", 3, ""))}),
		in("with far too many Writes", openAt(3, manyWrites(impl.MaxList+1, 3)...)),
	)
	for _, n := range []int{math.MinInt, -1, 0, 9, 10, impl.MaxId, math.MaxInt} {
		list = append(list, in("of Time "+strconv.Itoa(n), openAt(n))...)
	}
	for _, n := range []int{1, 3, 5, 6, impl.MaxList + 1} {
		list = append(list, namedVersions{strconv.Itoa(n) + " sessions", impl.Versions{Next: 1, Sessions: make([]impl.Session, n)}})
		list = append(list, turnedVersions("busy, "+strconv.Itoa(n)+" sessions", func(v *impl.Versions) {
			v.Sessions = append(v.Sessions, make([]impl.Session, n)...)[:n]
		}))
	}
	return list
}
