package tests

import (
	"math"
	"reflect"
	"strconv"
	"strings"
)

// room is how many elements lie behind the end of a list that is handed in.
const room = 24

// own is the same value in memory of its own, each of its lists with other
// elements behind its end.
func own(v any, behind int) any {
	return ownValue(reflect.ValueOf(v), behind).Interface()
}

func ownValue(v reflect.Value, behind int) reflect.Value {
	mine := reflect.New(v.Type()).Elem()
	switch v.Kind() {
	case reflect.String:
		mine.SetString(strings.Clone(v.String()))
	case reflect.Struct:
		for i := range v.NumField() {
			mine.Field(i).Set(ownValue(v.Field(i), behind))
		}
	case reflect.Slice:
		if v.IsNil() && behind == 0 {
			return mine
		}
		whole := reflect.MakeSlice(v.Type(), v.Len()+behind, v.Len()+behind)
		if v.Type().Elem().Kind() == reflect.Uint8 {
			reflect.Copy(whole, v)
		}
		for i := range whole.Len() {
			if i >= v.Len() {
				whole.Index(i).Set(junk(v.Type().Elem()))
			} else if v.Type().Elem().Kind() != reflect.Uint8 {
				whole.Index(i).Set(ownValue(v.Index(i), behind))
			}
		}
		return whole.Slice(0, v.Len())
	default:
		mine.Set(v)
	}
	return mine
}

// junk is a value that no call was asked to look at.
func junk(kind reflect.Type) reflect.Value {
	v := reflect.New(kind).Elem()
	switch kind.Kind() {
	case reflect.Slice:
		v.Set(reflect.MakeSlice(kind, 1, 1))
	case reflect.Struct:
		for i := range v.NumField() {
			v.Field(i).Set(junk(v.Field(i).Type()))
		}
	}
	spoilValue(v)
	return v
}

// spoil changes all that the lists of a value hold, and what lies behind their ends.
func spoil(values []any) {
	for _, v := range values {
		for _, list := range listsOf(reflect.ValueOf(v), nil) {
			whole := list.Slice(0, list.Cap())
			for i := range whole.Len() {
				spoilValue(whole.Index(i))
			}
		}
	}
}

// spoilValue leaves lists within a value alone: spoil goes through these by themselves.
func spoilValue(v reflect.Value) {
	switch v.Kind() {
	case reflect.Bool:
		v.SetBool(!v.Bool())
	case reflect.Int:
		v.SetInt(v.Int() ^ 0x5A5A)
	case reflect.Uint8:
		v.SetUint(v.Uint() ^ 0x5A)
	case reflect.Float64:
		v.SetFloat(math.Float64frombits(math.Float64bits(v.Float()) ^ 0x5A5A))
	case reflect.String:
		v.SetString(v.String() + "spoilt")
	case reflect.Struct:
		for i := range v.NumField() {
			spoilValue(v.Field(i))
		}
	}
}

// listsOf are the lists of a value, the inner ones first.
func listsOf(v reflect.Value, lists []reflect.Value) []reflect.Value {
	switch v.Kind() {
	case reflect.Struct:
		for i := range v.NumField() {
			lists = listsOf(v.Field(i), lists)
		}
	case reflect.Slice:
		if kind := v.Type().Elem().Kind(); kind == reflect.Struct || kind == reflect.Slice {
			for i := range v.Len() {
				lists = listsOf(v.Index(i), lists)
			}
		}
		lists = append(lists, v)
	}
	return lists
}

// span is where a list and its room behind lie.
type span struct{ from, to uintptr }

func spansOf(values []any) []span {
	var spans []span
	for _, v := range values {
		for _, list := range listsOf(reflect.ValueOf(v), nil) {
			if list.Cap() > 0 {
				size := uintptr(list.Cap()) * list.Type().Elem().Size()
				spans = append(spans, span{list.Pointer(), list.Pointer() + size})
			}
		}
	}
	return spans
}

// told tells all of some values but the room behind their lists; nil and an
// empty list are told alike.
func told(values []any) string {
	return string(tellAll(values, false))
}

// toldWhole tells the room behind the lists, too.
func toldWhole(values []any) string {
	return string(tellAll(values, true))
}

func tellAll(values []any, whole bool) []byte {
	var text []byte
	for _, v := range values {
		text = tell(text, reflect.ValueOf(v), whole)
	}
	return text
}

func tell(text []byte, v reflect.Value, whole bool) []byte {
	switch v.Kind() {
	case reflect.Bool:
		text = strconv.AppendBool(text, v.Bool())
	case reflect.Int:
		text = strconv.AppendInt(text, v.Int(), 10)
	case reflect.Uint8:
		text = strconv.AppendUint(text, v.Uint(), 10)
	case reflect.Float64:
		text = strconv.AppendUint(text, math.Float64bits(v.Float()), 16)
	case reflect.String:
		text = strconv.AppendInt(text, int64(v.Len()), 10)
		text = append(append(text, ':'), v.String()...)
	case reflect.Struct:
		for i := range v.NumField() {
			text = tell(text, v.Field(i), whole)
		}
	case reflect.Slice:
		text = tellList(text, v, whole)
	default:
		panic("no way to tell a " + v.Kind().String())
	}
	return append(text, ' ')
}

func tellList(text []byte, v reflect.Value, whole bool) []byte {
	text = append(strconv.AppendInt(text, int64(v.Len()), 10), '[')
	if whole {
		v = v.Slice(0, v.Cap())
	}
	if v.Type().Elem().Kind() == reflect.Uint8 {
		return append(text, v.Bytes()...)
	}
	for i := range v.Len() {
		text = tell(text, v.Index(i), whole)
	}
	return text
}

// emptied is a value whose empty lists are all nil, or all not nil.
func emptied(v any, toNil bool) any {
	mine := reflect.New(reflect.TypeOf(v)).Elem()
	mine.Set(reflect.ValueOf(own(v, 0)))
	emptyValue(mine, toNil)
	return mine.Interface()
}

func emptyValue(v reflect.Value, toNil bool) {
	switch v.Kind() {
	case reflect.Struct:
		for i := range v.NumField() {
			emptyValue(v.Field(i), toNil)
		}
	case reflect.Slice:
		if v.Len() == 0 && toNil {
			v.SetZero()
		} else if v.Len() == 0 {
			v.Set(reflect.MakeSlice(v.Type(), 0, 0))
		}
		if v.Type().Elem().Kind() == reflect.Struct {
			for i := range v.Len() {
				emptyValue(v.Index(i), toNil)
			}
		}
	}
}
