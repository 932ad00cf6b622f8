package tests

import (
	"fmt"
	"reflect"
	"strings"
	"testing"
	"unsafe"

	"loop.example/almanack/impl"
)

// spare is how many elements stand behind the end of each list that is handed over.
const spare = 3

// roomy is a copy of an argument, of new texts and of lists with marked room behind their ends.
func roomy[T any](arg T) T {
	return roomyValue(reflect.ValueOf(arg)).Interface().(T)
}

func roomyValue(v reflect.Value) reflect.Value {
	out := reflect.New(v.Type()).Elem()
	switch v.Kind() {
	case reflect.String:
		out.SetString(strings.Clone(v.String()))
	case reflect.Struct:
		for i := range v.NumField() {
			out.Field(i).Set(roomyValue(v.Field(i)))
		}
	case reflect.Slice:
		room := reflect.MakeSlice(v.Type(), v.Len()+spare, v.Len()+spare)
		for i := range room.Len() {
			if i < v.Len() {
				room.Index(i).Set(roomyValue(v.Index(i)))
			} else {
				markValue(room.Index(i))
			}
		}
		out.Set(room.Slice(0, v.Len()))
	default:
		out.Set(v)
	}
	return out
}

func markValue(v reflect.Value) {
	switch v.Kind() {
	case reflect.String:
		v.SetString("mark")
	case reflect.Int:
		v.SetInt(4242)
	case reflect.Struct:
		for i := range v.NumField() {
			markValue(v.Field(i))
		}
	case reflect.Slice:
		v.Set(reflect.MakeSlice(v.Type(), 0, 1))
	}
}

// whole tells all of a value, what stands behind the ends of lists included.
func whole(v reflect.Value) string {
	var out strings.Builder
	switch v.Kind() {
	case reflect.Struct:
		for i := range v.NumField() {
			out.WriteString(whole(v.Field(i)) + ";")
		}
	case reflect.Slice:
		fmt.Fprintf(&out, "%d[", v.Len())
		room := v.Slice(0, v.Cap())
		for i := range room.Len() {
			out.WriteString(whole(room.Index(i)) + ",")
		}
		out.WriteString("]")
	default:
		fmt.Fprintf(&out, "%#v", v.Interface())
	}
	return out.String()
}

// span is the memory of a list, spare room included, or of a text.
type span struct {
	from, to uintptr
	where    string
	text     bool
}

func spansOf(where string, v reflect.Value) []span {
	var out []span
	switch v.Kind() {
	case reflect.String:
		if s := v.String(); s != "" {
			from := uintptr(unsafe.Pointer(unsafe.StringData(s)))
			out = append(out, span{from: from, to: from + uintptr(len(s)), where: where, text: true})
		}
	case reflect.Struct:
		for i := range v.NumField() {
			out = append(out, spansOf(where+"."+v.Type().Field(i).Name, v.Field(i))...)
		}
	case reflect.Slice:
		if v.Cap() > 0 {
			from := v.Pointer()
			out = append(out, span{from: from, to: from + uintptr(v.Cap())*v.Type().Elem().Size(), where: where})
		}
		for i := range v.Len() {
			out = append(out, spansOf(fmt.Sprintf("%s[%d]", where, i), v.Index(i))...)
		}
	}
	return out
}

func (s span) meets(o span) bool {
	return s.from < o.to && o.from < s.to
}

// handed is arguments, and all that they said ahead of a call.
type handed struct {
	args []any
	kept []string
}

func hand(args ...any) handed {
	h := handed{args: args}
	for _, a := range args {
		h.kept = append(h.kept, whole(reflect.ValueOf(a)))
	}
	return h
}

// teller is told what is wrong.
type teller interface {
	Helper()
	Errorf(format string, args ...any)
}

// count is a teller that only counts.
type count int

func (c *count) Helper() {}

func (c *count) Errorf(string, ...any) {
	*c++
}

// check says that no argument was written into, that an answer shares no memory with any, and that no two of its lists share any.
func (h handed) check(t teller, call string, answers ...any) {
	t.Helper()
	var given []span
	for i, a := range h.args {
		if whole(reflect.ValueOf(a)) != h.kept[i] {
			t.Errorf("%s wrote into its argument %d", call, i)
		}
		given = append(given, spansOf(fmt.Sprintf("argument %d", i), reflect.ValueOf(a))...)
	}
	for _, a := range answers {
		told := spansOf("answer", reflect.ValueOf(a))
		for i, s := range told {
			for _, g := range given {
				if s.text == g.text && s.meets(g) {
					t.Errorf("%s: %s shares memory with %s", call, s.where, g.where)
				}
			}
			for _, o := range told[:i] {
				if !s.text && !o.text && s.meets(o) {
					t.Errorf("%s: %s shares memory with %s", call, s.where, o.where)
				}
			}
		}
	}
}

// TestMemoryIsSeen holds the helpers above against calls that do what none may.
func TestMemoryIsSeen(t *testing.T) {
	rows := roomy([]impl.Row{{Labels: []impl.Label{{Name: "a", Word: "x"}}, List: samples{{T: 1, V: 2}}}})
	h := hand(rows)
	h.check(t, "a copy", roomy(rows))
	seen := func(what string, spoilt func(), answers ...any) {
		t.Helper()
		var told count
		spoilt()
		h.check(&told, what, answers...)
		if told == 0 {
			t.Errorf("%s is not seen", what)
		}
	}
	nothing := func() {}
	seen("the same rows", nothing, rows)
	seen("the same samples", nothing, []impl.Row{{List: rows[0].List}})
	seen("room behind the samples", nothing, rows[0].List[1:2])
	seen("the same text", nothing, rows[0].Labels[0].Word)
	one := samples{{T: 5, V: 5}}
	seen("one list twice", nothing, []impl.Row{{List: one}, {List: one}})
	seen("a write behind the end", func() { _ = append(rows[0].List, impl.Sample{T: 3, V: 3}) })
}
