package tests

import (
	"cmp"
	"reflect"
	"slices"
	"testing"

	"loop.example/g00163/impl"
)

// call is a function with what it is handed.
type call struct {
	name  string
	coded bool // the last of its answers is a code
	but   int  // a code that comes with other answers
	does  reflect.Value
	args  []any
}

func (c call) String() string {
	return c.name + "(" + shorten(told(c.args)) + ")"
}

// coded are calls of a function that answers a code last; plain are those of others.
func coded(name string, does any, args [][]any) []call {
	return callsOf(call{name: name, coded: true, does: reflect.ValueOf(does)}, args)
}

// codedBut are calls of a function with one code that comes with other answers.
func codedBut(but int, name string, does any, args [][]any) []call {
	return callsOf(call{name: name, coded: true, but: but, does: reflect.ValueOf(does)}, args)
}

func plain(name string, does any, args [][]any) []call {
	return callsOf(call{name: name, does: reflect.ValueOf(does)}, args)
}

func callsOf(c call, args [][]any) []call {
	var list []call
	for _, c.args = range args {
		list = append(list, c)
	}
	return list
}

// each makes of every value the arguments of a call that takes it alone.
func each[V any](values []V) [][]any {
	var args [][]any
	for _, v := range values {
		args = append(args, []any{v})
	}
	return args
}

func allCalls(t *testing.T) []call {
	return slices.Concat(keyCalls(t), flashCalls(), imageCalls(), pageCalls(), treeCalls(), versionCalls(), engineCalls(), consoleCalls())
}

// handed are the arguments of a call in memory of their own.
func (c call) handed(behind int) []any {
	var args []any
	for _, a := range c.args {
		args = append(args, own(a, behind))
	}
	return args
}

func (c call) emptied(toNil bool) []any {
	var args []any
	for _, a := range c.args {
		args = append(args, emptied(a, toNil))
	}
	return args
}

// try calls with some arguments; a panic is a fault.
func (c call) try(t *testing.T, args []any) (answers []any) {
	t.Helper()
	defer func() {
		if p := recover(); p != nil {
			t.Errorf("%q panics: %v", c, p)
		}
	}()
	var values []reflect.Value
	for _, a := range args {
		values = append(values, reflect.ValueOf(a))
	}
	for _, v := range c.does.Call(values) {
		answers = append(answers, v.Interface())
	}
	return answers
}

func TestNoCallWritesIntoItsArguments(t *testing.T) {
	for _, c := range allCalls(t) {
		for _, behind := range []int{0, 1, room} {
			args := c.handed(behind)
			before := toldWhole(args)
			c.try(t, args)
			if toldWhole(args) != before {
				t.Errorf("%q changes an argument, or what lies behind it", c)
			}
		}
	}
}

func TestAnswersAreNewMemory(t *testing.T) {
	for _, c := range allCalls(t) {
		for _, behind := range []int{0, room} {
			args := c.handed(behind)
			answers := c.try(t, args)
			spans := append(spansOf(args), spansOf(answers)...)
			slices.SortFunc(spans, func(a, b span) int { return cmp.Compare(a.from, b.from) })
			for i := 1; i < len(spans); i++ {
				if spans[i].from < spans[i-1].to {
					t.Errorf("%q: a list of its answer shares memory with another, or with an argument", c)
					break
				}
			}
		}
	}
}

func TestAnswersDoNotHangOnArgumentsBehindTheCall(t *testing.T) {
	for _, c := range allCalls(t) {
		args := c.handed(room)
		answers := c.try(t, args)
		before := told(answers)
		spoil(args)
		if told(answers) != before {
			t.Errorf("the answer of %q changes with its arguments", c)
		}
	}
}

func TestAlikeArgumentsHaveAlikeAnswers(t *testing.T) {
	for _, c := range allCalls(t) {
		first := c.try(t, c.handed(0))
		before := told(first)
		second := c.try(t, c.handed(room))
		if told(second) != before {
			t.Errorf("%q answers otherwise when called again", c)
		}
		spoil(second)
		if told(first) != before {
			t.Errorf("two answers of %q share memory", c)
		}
		if told(c.try(t, c.handed(0))) != before {
			t.Errorf("%q hands out memory that it keeps", c)
		}
	}
}

func TestAnswersDoNotHangOnEarlierCalls(t *testing.T) {
	calls := allCalls(t)
	var answers [][]any
	var before []string
	for _, c := range calls {
		answers = append(answers, c.try(t, c.args))
		before = append(before, told(answers[len(answers)-1]))
	}
	for i := len(calls) - 1; i >= 0; i-- {
		if told(calls[i].try(t, calls[i].args)) != before[i] {
			t.Errorf("%q answers otherwise behind other calls", calls[i])
		}
		if told(answers[i]) != before[i] {
			t.Errorf("the answer of %q is changed by a later call", calls[i])
		}
	}
}

func TestNilIsAnEmptyList(t *testing.T) {
	for _, c := range allCalls(t) {
		if told(c.try(t, c.emptied(true))) != told(c.try(t, c.emptied(false))) {
			t.Errorf("%q tells nil from an empty list", c)
		}
	}
}

func TestACodeMeansThatAllElseIsZero(t *testing.T) {
	for _, c := range allCalls(t) {
		answers := c.try(t, c.args)
		if !c.coded || len(answers) == 0 {
			continue
		}
		if code := answers[len(answers)-1]; code == impl.OK || code == c.but {
			continue
		}
		var zeros []any
		for _, a := range answers[:len(answers)-1] {
			zeros = append(zeros, reflect.Zero(reflect.TypeOf(a)).Interface())
		}
		if told(answers[:len(answers)-1]) != told(zeros) {
			t.Errorf("%q answers more than its code: %q", c, shorten(told(answers)))
		}
	}
}
