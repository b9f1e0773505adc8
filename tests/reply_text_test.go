package tests

import (
	"math"
	"strconv"
	"strings"
	"testing"

	"loop.example/g00163/impl"
)

// fullReply has something in each of its fields.
func fullReply(code int) impl.TxReply {
	return impl.TxReply{Code: code, Time: 12, Value: "val", List: entriesOf("k=v", "l=", "m=w x")}
}

func TestReplyTextOfEachKind(t *testing.T) {
	for kind, want := range []string{"ok\n", "ok 12\n", "value val\n", "k=v\nl=\nm=w x\nentries 3\n", "ok\n", "ok\n", "ok 12\n", "ok\n"} {
		wantReplyText(t, kind, fullReply(impl.OK), want)
	}
	for kind, want := range []string{"ok\n", "ok 0\n", "value \n", "entries 0\n", "ok\n", "ok\n", "ok 0\n", "ok\n"} {
		wantReplyText(t, kind, impl.TxReply{}, want)
		wantReplyText(t, kind, impl.TxReply{List: []impl.Entry{}}, want)
	}
}

func TestReplyTextOfEachCode(t *testing.T) {
	words := []string{"ok", "bad", "long", "form", "range", "none", "many", "full", "state", "conflict", "closed", "size", "gone"}
	for kind := range impl.TxAbort + 1 {
		for code := 1; code < len(words); code++ {
			wantReplyText(t, kind, impl.TxReply{Code: code}, "error "+words[code]+"\n")
			wantReplyText(t, kind, fullReply(code), "error "+words[code]+"\n")
		}
		for _, code := range []int{math.MinInt, -13, -2, -1, len(words), len(words) + 1, 255, 256, 1 << 32, math.MaxInt} {
			wantNoReplyText(t, kind, impl.TxReply{Code: code})
			wantNoReplyText(t, kind, fullReply(code))
		}
	}
}

func TestReplyTextOfOtherKinds(t *testing.T) {
	for _, kind := range []int{math.MinInt, -256, -2, -1, impl.TxAbort + 1, 9, 256, 258, 1<<32 + 2, math.MaxInt} {
		for _, code := range []int{impl.OK, impl.ErrNone, impl.ErrGone, -1, 13} {
			wantNoReplyText(t, kind, impl.TxReply{Code: code})
			wantNoReplyText(t, kind, fullReply(code))
		}
		wantNoReplyText(t, kind, impl.TxReply{Value: tooLong})
	}
}

func TestTimesAreToldAsNumbers(t *testing.T) {
	for word, n := range numbersThatAre {
		wantReplyText(t, impl.TxBegin, justTime(n), "ok "+word+"\n")
		wantReplyText(t, impl.TxCommit, justTime(n), "ok "+word+"\n")
		wantReplyText(t, impl.TxAbort, justTime(n), "ok\n")
	}
	wantReplyText(t, impl.TxBegin, justTime(math.MaxInt), "ok 9223372036854775807\n")
	wantReplyText(t, impl.TxCommit, justTime(math.MinInt), "ok -9223372036854775808\n")
}

// All keys and values of a reply are asked, whatever its Kind and Code tell of them.
func TestReplyTextOfLongTexts(t *testing.T) {
	for kind := range impl.TxAbort + 1 {
		for _, code := range []int{impl.OK, impl.ErrNone, impl.ErrGone} {
			most := impl.TxReply{Code: code, Value: longValue, List: []impl.Entry{{Key: longKey, Value: longValue}, {}, {Key: longKey}, {Value: longValue}}}
			want, _ := plainReplyText(kind, most)
			wantReplyText(t, kind, most, want)
			wantNoReplyText(t, kind, impl.TxReply{Code: code, Value: tooLong})
			wantNoReplyText(t, kind, impl.TxReply{Code: code, Value: strings.Repeat("v", impl.MaxText+1)})
			for _, bad := range []impl.Entry{
				{Key: tooLongKey}, {Key: "k", Value: tooLong}, {Key: tooLongKey, Value: tooLong},
				{Key: strings.Repeat("k", impl.MaxText+1)}, {Key: "k", Value: strings.Repeat("v", impl.MaxText+1)},
			} {
				wantNoReplyText(t, kind, impl.TxReply{Code: code, List: []impl.Entry{bad}})
				wantNoReplyText(t, kind, impl.TxReply{Code: code, List: append(manyEntries(3), bad)})
				wantNoReplyText(t, kind, impl.TxReply{Code: code, List: append([]impl.Entry{bad}, manyEntries(3)...)})
			}
		}
	}
	wantReplyText(t, impl.TxScan, impl.TxReply{List: []impl.Entry{{Key: longKey, Value: longValue}}}, longKey+"="+longValue+"\nentries 1\n")
	wantReplyText(t, impl.TxGet, impl.TxReply{Value: longValue}, "value "+longValue+"\n")
}

// What texts hold is told as it is; entries are told in the order of the list, right or not.
func TestReplyTextTellsTextsAsTheyAre(t *testing.T) {
	for _, value := range []string{"", " ", "a b", "=", "a=b", "\n", "a\nb", "\x00", "\xff\xfe", "error form", "\t"} {
		wantReplyText(t, impl.TxGet, impl.TxReply{Value: value}, "value "+value+"\n")
		wantReplyText(t, impl.TxScan, impl.TxReply{List: []impl.Entry{{Key: value, Value: value}}}, value+"="+value+"\nentries 1\n")
	}
	wantReplyText(t, impl.TxScan, impl.TxReply{List: entriesOf("c=1", "a=2", "a=2", "b=3")}, "c=1\na=2\na=2\nb=3\nentries 4\n")
	// Lists within a reply have no bound.
	for _, n := range []int{impl.MaxList, impl.MaxList + 1, 3 * impl.MaxList} {
		list := make([]impl.Entry, n)
		wantReplyText(t, impl.TxScan, impl.TxReply{List: list}, strings.Repeat("=\n", n)+"entries "+strconv.Itoa(n)+"\n")
		wantReplyText(t, impl.TxGet, impl.TxReply{List: list}, "value \n")
	}
}

func TestRepliesAsTheDocumentSays(t *testing.T) {
	next := numbers(109)
	seen := map[int]int{}
	for range 20000 {
		r := impl.TxReply{Time: int(next() % 2000)}
		if next()%2 == 0 {
			r.Code = int(next()%15) - 1
		}
		if next()%2 == 0 {
			r.Value = strings.Repeat("v", int(next()%103))
		}
		for range next() % 4 {
			r.List = append(r.List, impl.Entry{Key: strings.Repeat("k", int(next()%42)), Value: strings.Repeat("v", int(next()%102))})
		}
		kind := int(next()%10) - 1
		want, wantCode := plainReplyText(kind, r)
		got, code := impl.ReplyText(kind, r)
		if got != want || code != wantCode {
			t.Fatalf("ReplyText(%d, %v) is %q with code %d, want %q with code %d", kind, r, got, code, want, wantCode)
		}
		seen[code]++
	}
	if seen[impl.OK] < 5000 || seen[impl.ErrBad] < 2000 {
		t.Errorf("codes were seen %v times", seen)
	}
}
