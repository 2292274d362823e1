package labels

import (
	"fmt"
	"math/rand"
	"slices"
	"strings"
	"testing"

	"porter/api"
)

type list = []api.Label

// of returns the list of these names and values.
func of(pairs ...string) list {
	var l list
	for i := 0; i < len(pairs); i += 2 {
		l = append(l, api.Label{Name: pairs[i], Value: pairs[i+1]})
	}
	return l
}

// many returns n labels with increasing names.
func many(n int) list {
	var l list
	for i := range n {
		l = append(l, api.Label{Name: fmt.Sprintf("n%03d", i), Value: "v"})
	}
	return l
}

var (
	long    = strings.Repeat("v", 1025)
	longest = long[1:]
)

func TestRight(t *testing.T) { // 11.1
	for i, c := range []struct {
		l    list
		want api.Errno
	}{
		{nil, api.OK}, {of("a", "1"), api.OK}, {of("A", "1", "B", "\xff", "_", "1", "a", "1"), api.OK}, {of("a", longest), api.OK},
		{many(32), api.OK}, {many(33), api.ErrLimit}, {append(of("1", ""), many(32)...), api.ErrLimit},
		{of("", "1"), api.ErrName}, {of("1", long), api.ErrName}, {of("a-b", ""), api.ErrName}, {of(strings.Repeat("n", 33), "1"), api.ErrName},
		{of("a", long), api.ErrLimit}, {of("a", ""), api.ErrForm},
		{of("a", "1", "a", "2"), api.ErrTwice}, {of("b", "1", "a", "2"), api.ErrForm}, {of("a", "1", "B", "2"), api.ErrForm},
		{of("a", "1", "a", long), api.ErrLimit}, {of("a", "1", "a", ""), api.ErrForm}, {of("b", "1", "a", "1", "", "1"), api.ErrForm},
		{of("a", "1", "b", "1", "a", "1"), api.ErrForm}, {of("a", "1", "aa", "1"), api.OK},
	} {
		if got := Right(c.l); got != c.want {
			t.Errorf("case %d: Right = %d, want %d", i, got, c.want)
		}
	}
}

func TestGet(t *testing.T) { // 11.1
	l := of("b", "2", "a", "", "a", "1", "b", "3", "", "0")
	for name, want := range map[string]string{"b": "2", "a": "", "c": "", "": "0"} {
		if got := Get(l, name); got != want {
			t.Errorf("Get of %q = %q", name, got)
		}
	}
	if Get(nil, "a") != "" {
		t.Error("an empty list has a value")
	}
}

func TestOf(t *testing.T) { // 11.2
	for i, c := range []struct {
		l, want list
		e       api.Errno
	}{
		{nil, nil, api.OK}, {of("b", "2", "c", "", "a", "1"), of("a", "1", "b", "2"), api.OK}, {of("b", ""), nil, api.OK},
		{of("a", "1", "B", longest), of("B", longest, "a", "1"), api.OK}, {many(32), many(32), api.OK},
		{many(33), nil, api.ErrLimit}, {append(of("", ""), many(32)...), nil, api.ErrLimit},
		{of("a", "1", "1", ""), nil, api.ErrName}, {of("1", long), nil, api.ErrName}, {of("a", long, "1", ""), nil, api.ErrLimit},
		{of("a", "1", "a", "1"), nil, api.ErrTwice}, {of("a", "1", "b", "1", "a", ""), nil, api.ErrTwice},
		{of("a", "", "a", ""), nil, api.ErrTwice}, {of("a", "1", "a", "1", "", ""), nil, api.ErrName}, {of("a", "1", "a", long), nil, api.ErrLimit},
	} {
		before := slices.Clone(c.l)
		got, e := Of(c.l)
		if !slices.Equal(got, c.want) || e != c.e {
			t.Errorf("case %d: Of = %v, error %d", i, got, e)
		}
		if !slices.Equal(c.l, before) {
			t.Errorf("case %d: Of changes its argument", i)
		}
	}
}

func TestText(t *testing.T) { // 11.3
	for _, c := range []struct {
		l    list
		want string
	}{
		{nil, "{}"}, {of("a", "1", "b", ""), `{a="1", b=""}`}, {of("b", "\"\xff", "a", "x"), `{b="\"\xff", a="x"}`}, {of("", "", "1 ", "é"), `{="", 1 ="é"}`},
	} {
		if got := Text(c.l); got != c.want {
			t.Errorf("Text(%q) = %s", c.l, got)
		}
	}
}

func TestTakeAndParse(t *testing.T) { // 11.3
	for _, c := range []struct {
		before, s, after string
		want             list
	}{
		{"", "{}", "", nil}, {"x", "{}", "}", nil}, {"{", `{a="1"}`, `{b="2"}`, of("a", "1")},
		{"", `{b="1", a="", b="\x41"}`, " ", of("b", "1", "a", "", "b", "A")},
		{"", Text(many(32)), "", many(32)}, {"", `{a="` + long + `"}`, "", of("a", long)},
	} {
		got, end, f := Take(c.before+c.s+c.after, len(c.before))
		if !slices.Equal(got, c.want) || end != len(c.before+c.s) || f != (api.Fault{}) {
			t.Errorf("Take of %.40q = %v, %d, %v", c.s, got, end, f)
		}
		if got, f := Parse(c.s); !slices.Equal(got, c.want) || f != (api.Fault{}) {
			t.Errorf("Parse(%.40q) = %v, %v", c.s, got, f)
		}
		if got, f := Parse(c.s + "x"); len(got) != 0 || f != (api.Fault{E: api.ErrForm, At: len(c.s)}) {
			t.Errorf("Parse(%.40q) with x after it = %v, %v", c.s, got, f)
		}
	}
}

func TestTakeRefuses(t *testing.T) { // 11.3
	full := strings.TrimSuffix(Text(many(32)), "}") + ", "
	for _, c := range []struct {
		s    string
		want api.Fault
	}{
		{"", api.Fault{E: api.ErrEnd, At: 0}}, {"{", api.Fault{E: api.ErrEnd, At: 1}}, {"{a", api.Fault{E: api.ErrEnd, At: 2}}, {"{a=", api.Fault{E: api.ErrEnd, At: 3}}, {`{a="`, api.Fault{E: api.ErrEnd, At: 4}},
		{`{a="1"`, api.Fault{E: api.ErrEnd, At: 6}}, {`{a="1",`, api.Fault{E: api.ErrEnd, At: 7}}, {`{a="1", `, api.Fault{E: api.ErrEnd, At: 8}}, {`{a="1", b`, api.Fault{E: api.ErrEnd, At: 9}},
		{"a", api.Fault{E: api.ErrForm, At: 0}}, {"}", api.Fault{E: api.ErrForm, At: 0}}, {" {}", api.Fault{E: api.ErrForm, At: 0}}, {"{a}", api.Fault{E: api.ErrForm, At: 2}}, {"{a:1}", api.Fault{E: api.ErrForm, At: 2}}, {"{a=1}", api.Fault{E: api.ErrForm, At: 3}},
		{`{a="\n"}`, api.Fault{E: api.ErrForm, At: 4}}, {"{a=\"1\xff\"}", api.Fault{E: api.ErrForm, At: 5}}, {`{a="1"b="2"}`, api.Fault{E: api.ErrForm, At: 6}}, {`{a="1" , b="2"}`, api.Fault{E: api.ErrForm, At: 6}}, {`{a="1",b="2"}`, api.Fault{E: api.ErrForm, At: 7}},
		{"{1}", api.Fault{E: api.ErrName, At: 1}}, {"{ }", api.Fault{E: api.ErrName, At: 1}}, {"{{", api.Fault{E: api.ErrName, At: 1}}, {"{é=", api.Fault{E: api.ErrName, At: 1}}, {`{="1"}`, api.Fault{E: api.ErrName, At: 1}}, {`{a="1", }`, api.Fault{E: api.ErrName, At: 8}}, {`{a="1",  b="2"}`, api.Fault{E: api.ErrName, At: 8}},
		{"{" + strings.Repeat("n", 33) + "=", api.Fault{E: api.ErrName, At: 1}}, {"{" + strings.Repeat("n", 33), api.Fault{E: api.ErrName, At: 1}}, {"{" + strings.Repeat("n", 32), api.Fault{E: api.ErrEnd, At: 33}},
		{full, api.Fault{E: api.ErrEnd, At: len(full)}}, {full + `z="1"}`, api.Fault{E: api.ErrLimit, At: len(full)}}, {full + `1`, api.Fault{E: api.ErrLimit, At: len(full)}}, {full[:len(full)-1] + "z", api.Fault{E: api.ErrForm, At: len(full) - 1}},
	} {
		if got, end, f := Take(c.s, 0); len(got) != 0 || end != 0 || f != c.want {
			t.Errorf("Take(%.40q, 0) = %v, %d, %v, want %v", c.s, got, end, f, c.want)
		}
		if got, f := Parse(c.s); len(got) != 0 || f != c.want {
			t.Errorf("Parse(%.40q) = %v, %v, want %v", c.s, got, f, c.want)
		}
		moved := api.Fault{E: c.want.E, At: c.want.At + 2}
		if got, end, f := Take("{}"+c.s, 2); len(got) != 0 || end != 0 || f != moved {
			t.Errorf("Take(%.40q, 2) = %v, %d, %v, want %v", c.s, got, end, f, moved)
		}
	}
	for _, at := range []int{-1, 3, 1 << 62, -1 << 63} {
		if got, end, f := Take("{}", at); len(got) != 0 || end != 0 || f != (api.Fault{E: api.ErrArg}) {
			t.Errorf("Take at %d = %v, %d, %v", at, got, end, f)
		}
	}
}

func TestProperties(t *testing.T) { // 11.4
	r := rand.New(rand.NewSource(11))
	names, values := []string{"a", "b", "B", "_", "ab"}, []string{"", "1", "\"", "\\x", "\xff\x00", "é"}
	for range 2000 {
		var l list
		for range r.Intn(4) {
			l = append(l, api.Label{Name: names[r.Intn(len(names))], Value: values[r.Intn(len(values))]})
		}
		m, e := Of(l)
		if e != api.OK {
			continue
		}
		if Right(m) != api.OK {
			t.Fatalf("Of(%q) = %q is no label map", l, m)
		}
		for _, name := range append(names, "c") {
			if Get(m, name) != Get(l, name) {
				t.Fatalf("Of(%q) changes the value of %s", l, name)
			}
		}
		if same, e := Of(m); !slices.Equal(same, m) || e != api.OK {
			t.Fatalf("Of changes the label map %q", m)
		}
		if got, f := Parse(Text(m)); !slices.Equal(got, m) || f != (api.Fault{}) {
			t.Fatalf("Parse(Text(%q)) = %q, %v", m, got, f)
		}
	}
}
