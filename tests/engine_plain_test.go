package tests

import (
	"slices"

	"loop.example/g00163/impl"
)

// What follows says of an engine what the document says, over the plain device,
// the plain scan and the plain sessions; the program keeps none of these.

func plainCommitOK(writes []impl.Version) bool {
	if len(writes) > impl.MaxWrites || !plainListOK(writes) {
		return false
	}
	for _, w := range writes {
		if w.Time != writes[0].Time {
			return false
		}
	}
	return true
}

// plainBytes are the bytes of writes, right or not.
func plainBytes(writes []impl.Version) []byte {
	var b []byte
	for _, w := range writes {
		if w.Gone {
			b = append(b, 2)
		} else {
			b = append(b, 1)
		}
		b = append(b, byte(len(w.Key)))
		b = append(b, w.Key...)
		b = append(b, byte(len(w.Value)))
		b = append(b, w.Value...)
	}
	return b
}

func plainCommitBytes(writes []impl.Version) ([]byte, int) {
	switch {
	case len(writes) > impl.MaxList:
		return nil, impl.ErrLong
	case !plainCommitOK(writes):
		return nil, impl.ErrBad
	}
	return plainBytes(writes), impl.OK
}

func plainReadCommit(b []byte, time int) ([]impl.Version, int) {
	switch {
	case len(b) > impl.MaxText:
		return nil, impl.ErrLong
	case time < 0 || time > impl.MaxId:
		return nil, impl.ErrRange
	}
	var writes []impl.Version
	for len(b) > 0 {
		if b[0] != 1 && b[0] != 2 || len(b) < 2 || len(b) < 3+int(b[1]) {
			return nil, impl.ErrForm
		}
		key, rest := b[2:2+b[1]], b[2+int(b[1]):]
		if len(rest) < 1+int(rest[0]) {
			return nil, impl.ErrForm
		}
		value := rest[1 : 1+int(rest[0])]
		writes = append(writes, impl.Version{Key: string(key), Time: time, Value: string(value), Gone: b[0] == 2})
		b = rest[1+len(value):]
	}
	if !plainCommitOK(writes) {
		return nil, impl.ErrForm
	}
	return writes, impl.OK
}

// plainLog are the images at the beginning of a device's bytes that make versions.
func plainLog(b []byte) []impl.Image {
	all, _ := plainScan(b)
	seen := map[int]int{}
	for i, x := range all {
		_, code := plainReadCommit(x.Data, x.Id)
		seen[x.Id]++
		if x.Gone || code != impl.OK || x.Id == 0 || x.Id == impl.MaxId || seen[x.Id] > 1 {
			return all[:i]
		}
	}
	return all
}

func plainMade(log []impl.Image) impl.Versions {
	v := storeOf(1, nil, nil)
	for _, x := range log {
		writes, _ := plainReadCommit(x.Data, x.Id)
		v.List = append(v.List, writes...)
		v.Next = max(v.Next, x.Id+1)
	}
	slices.SortFunc(v.List, plainVersionOrder)
	return v
}

func plainRecover(f impl.Flash) (impl.Versions, int, int) {
	p := plainFlash{f}
	log := plainLog(p.read().Held)
	return plainMade(log), len(log), impl.OK
}

type plainEngine struct {
	v     impl.Versions
	flash plainFlash
}

func (e *plainEngine) do(a impl.EngineAct) impl.TxReply {
	switch a.Kind {
	case impl.EnTx:
		return e.tx(a.Tx)
	case impl.EnSync:
		e.flash = e.flash.read()
		return impl.TxReply{}
	case impl.EnCrash:
		code := e.flash.crash(a.Keep, a.Torn)
		if code == impl.OK {
			log := plainLog(e.flash.Held)
			e.v = plainMade(log)
			e.flash = plainFlash{holding(rawOf(log...)...)}
		}
		return impl.TxReply{Code: code}
	case impl.EnClean:
		return impl.TxReply{Code: e.clean()}
	}
	return impl.TxReply{Code: impl.ErrForm}
}

func (e *plainEngine) tx(a impl.TxAct) impl.TxReply {
	before := own(e.v, 0).(impl.Versions)
	reply := plainTx(&e.v, a)
	if a.Kind != impl.TxCommit || reply.Code != impl.OK {
		return reply
	}
	x := impl.Image{Id: reply.Time, Data: plainBytes(before.Sessions[a.Session].Writes)}
	all := e.flash.read()
	_, at := plainScan(all.Held)
	if len(x.Data) > impl.MaxImage || e.flash.write(at, rawOf(x)) != impl.OK {
		e.v.List = before.List
		return impl.TxReply{Code: impl.ErrFull, Time: reply.Time}
	}
	return reply
}

func (e *plainEngine) clean() int {
	for _, s := range e.v.Sessions {
		if s.Open {
			return impl.ErrState
		}
	}
	left := storeOf(e.v.Next, nil, nil)
	for _, x := range e.v.List {
		later := slices.ContainsFunc(e.v.List, func(y impl.Version) bool { return y.Key == x.Key && y.Time > x.Time })
		if !later && !x.Gone {
			left.List = append(left.List, x)
		}
	}
	var log []impl.Image
	for time := range e.v.Next {
		var writes []impl.Version
		for _, x := range left.List {
			if x.Time == time {
				writes = append(writes, x)
			}
		}
		if len(writes) > 0 || time > 0 && time == e.v.Next-1 {
			log = append(log, impl.Image{Id: time, Data: plainBytes(writes)})
		}
	}
	if len(rawOf(log...)) > flashSize {
		return impl.ErrFull
	}
	e.v = left
	e.flash = plainFlash{holding(rawOf(log...)...)}
	return impl.OK
}

func (e *plainEngine) engine() impl.Engine {
	_, synced := plainScan(e.flash.Held)
	return impl.Engine{Versions: e.v, Flash: e.flash.Flash, Synced: synced}
}

func plainNothing() *plainEngine {
	return &plainEngine{v: storeOf(1, nil, nil)}
}

func plainEngineRun(acts []impl.EngineAct) (impl.Engine, []impl.TxReply, int) {
	if len(acts) > impl.MaxList {
		return impl.Engine{}, nil, impl.ErrLong
	}
	if len(acts) > impl.MaxScript {
		return impl.Engine{}, nil, impl.ErrMany
	}
	for _, a := range acts {
		if max(len(a.Tx.Key), len(a.Tx.To), len(a.Tx.Value)) > impl.MaxText || len(a.Keep) > impl.MaxList {
			return impl.Engine{}, nil, impl.ErrBad
		}
	}
	e := plainNothing()
	var replies []impl.TxReply
	for _, a := range acts {
		replies = append(replies, e.do(a))
	}
	return e.engine(), replies, impl.OK
}

// plainBuild puts entries step by step, as a caller of TreeStep would.
func plainBuild(list []impl.Entry) (impl.Tree, int) {
	for _, e := range list {
		if !plainKey(e.Key) || len(e.Value) > impl.MaxValue {
			return impl.Tree{}, impl.ErrBad
		}
	}
	tree := impl.NewTree()
	for _, e := range list {
		next, _, code := plainStep(tree, treePut(e.Key, e.Value))
		if code != impl.OK {
			id, _ := plainDown(tree, e.Key)
			tree, _, _ = plainStep(tree, treeAct(impl.TrConsolidate, id))
			var page int
			if tree, page, code = plainStep(tree, treeAct(impl.TrSplit, id)); code != impl.OK {
				return impl.Tree{}, impl.ErrFull
			}
			tree, _, _ = plainStep(tree, treeAct(impl.TrPost, page))
			next, _, _ = plainStep(tree, treePut(e.Key, e.Value))
		}
		tree = next
	}
	return tree, impl.OK
}
