package tests

import (
	"fmt"
	"math/rand"
	"reflect"
	"runtime/debug"
	"slices"
	"strconv"
	"strings"
	"testing"

	"loop.example/g00421/impl"
)

// The tests of chapter 8 (promise 8). The expected results are written by hand
// or worked out here: paths byte by byte, and what becomes of a value from the
// names of its parts.

// pathByHand works out PutPath.
func pathByHand(steps []string) string {
	path := []byte{}
	for _, step := range steps {
		if len(steps) > 12 || len(step) > 2000 || !impl.TextOk(step) {
			return ""
		}
		path = append(path, '/')
		for _, b := range []byte(step) {
			switch b {
			case '~':
				path = append(path, '~', '0')
			case '/':
				path = append(path, '~', '1')
			default:
				path = append(path, b)
			}
		}
	}
	return string(path)
}

// stepsByHand works out GetPath.
func stepsByHand(s string) ([]string, bool) {
	steps := []string{}
	for i := 0; i < len(s); i++ {
		b := s[i]
		if b == '/' {
			steps = append(steps, "")
			continue
		}
		if len(steps) == 0 {
			return nil, false
		}
		if b == '~' {
			if i++; i == len(s) || s[i] != '0' && s[i] != '1' {
				return nil, false
			}
			b = "~/"[s[i]-'0']
		}
		steps[len(steps)-1] += string([]byte{b})
	}
	for _, step := range steps {
		if len(steps) > 12 || len(step) > 2000 || !impl.TextOk(step) {
			return nil, false
		}
	}
	return steps, true
}

// to returns the steps of a path.
func to(path string) []string {
	steps, ok := stepsByHand(path)
	if !ok {
		panic("no path: " + path)
	}
	return steps
}

// ofJson returns the value of a JSON text.
func ofJson(s string) impl.Value {
	v, bad := impl.GetJson(s)
	if bad >= 0 {
		panic("no JSON: " + s)
	}
	return v
}

// nameOf returns the step that leads from v, valid or not, to its Kid with index
// i, and whether there is one. Equal ones lead to the first such Kid.
func nameOf(v impl.Value, i int) (string, bool) {
	switch {
	case v.Kind == impl.VList:
		return strconv.Itoa(i), i < 1000000
	case v.Kind == impl.VTag:
		return "tag", true
	case v.Kind == impl.VMap && i%2 == 1 && v.Kids[i-1].Kind == impl.VText:
		return v.Kids[i-1].S, len(v.Kids[i-1].S) <= 2000
	}
	return "", false
}

// named returns the index of the Kid of v that a step leads to, or -1.
func named(v impl.Value, step string) int {
	for i := range v.Kids {
		if name, ok := nameOf(v, i); ok && name == step {
			return i
		}
	}
	return -1
}

// A spot is a part of a value and the steps that lead to it.
type spot struct {
	steps []string
	node  impl.Value
}

// spotsOf lists the parts of v that steps can address, in depth-first order.
func spotsOf(v impl.Value, steps ...string) []spot {
	spots := []spot{{steps, v}}
	for i, kid := range v.Kids {
		if name, ok := nameOf(v, i); ok {
			spots = append(spots, spotsOf(kid, append(slices.Clone(steps), name)...)...)
		}
	}
	return spots
}

// partAt works out At.
func partAt(v impl.Value, steps []string) (impl.Value, bool) {
	if len(steps) > 12 {
		return impl.Value{}, false
	}
	for _, step := range steps {
		i := named(v, step)
		if i < 0 {
			return impl.Value{}, false
		}
		v = v.Kids[i]
	}
	return v, true
}

// A deed is one of the functions that change a value.
type deed struct {
	name string
	do   func(v impl.Value, steps []string, x impl.Value) (impl.Value, bool)
}

func remove(v impl.Value, steps []string, _ impl.Value) (impl.Value, bool) {
	return impl.Remove(v, steps)
}

var deeds = []deed{{"Put", impl.Put}, {"Insert", impl.Insert}, {"Remove", remove}}

// changedByHand works out what becomes of v, and whether there is a position for
// that. The result need not be valid.
func changedByHand(name string, v impl.Value, steps []string, x impl.Value) (impl.Value, bool) {
	if len(steps) == 0 {
		return x, name != "Remove"
	}
	i := named(v, steps[0])
	atEnd := v.Kind == impl.VList && steps[0] == strconv.Itoa(len(v.Kids))
	v.Kids = slices.Clone(v.Kids)
	ok := true
	switch {
	case i >= 0 && (len(steps) > 1 || name == "Put" || name == "Insert" && v.Kind != impl.VList):
		v.Kids[i], ok = changedByHand(name, v.Kids[i], steps[1:], x)
	case len(steps) > 1:
		return v, false
	case name == "Remove" && i >= 0 && v.Kind == impl.VList:
		v.Kids = slices.Delete(v.Kids, i, i+1)
	case name == "Remove" && i >= 0 && v.Kind == impl.VMap:
		v.Kids = slices.Delete(v.Kids, i-1, i+1)
	case name == "Remove":
		return v, false
	case i >= 0:
		v.Kids = slices.Insert(v.Kids, i, x)
	case atEnd:
		v.Kids = append(v.Kids, x)
	case v.Kind == impl.VMap:
		v.Kids = append(v.Kids, text(steps[0]), x)
	default:
		return v, false
	}
	return v, ok
}

func checkDeed(t *testing.T, d deed, v impl.Value, steps []string, x impl.Value, want impl.Value, wantOk bool) {
	t.Helper()
	got, ok := d.do(v, steps, x)
	if ok != wantOk || order(got, want) != 0 {
		t.Fatalf("%s of %s at %.100q, %s = %s, %v, not %s, %v", d.name, shortened(v), steps, shortened(x), shortened(got), ok, shortened(want), wantOk)
	}
}

// checkDeedByHand fails if a deed does not do what changedByHand tells.
func checkDeedByHand(t *testing.T, d deed, v impl.Value, steps []string, x impl.Value) {
	t.Helper()
	want, ok := changedByHand(d.name, v, steps, x)
	if !ok || !impl.ValueOk(v) || !impl.ValueOk(want) {
		checkDeed(t, d, v, steps, x, v, false)
		return
	}
	checkDeed(t, d, v, steps, x, want, true)
}

// checkRefused fails if a deed changes v.
func checkRefused(t *testing.T, d deed, v impl.Value, steps []string, x impl.Value) {
	t.Helper()
	checkDeed(t, d, v, steps, x, v, false)
}

func TestPutPath(t *testing.T) {
	rows := []struct {
		steps []string
		want  string
	}{
		{nil, ""}, {[]string{}, ""}, {[]string{""}, "/"}, {[]string{"", ""}, "//"}, {[]string{"", "a", ""}, "//a/"},
		{[]string{"a"}, "/a"}, {[]string{"a", "1", "b/~"}, "/a/1/b~1~0"}, {[]string{"a/b"}, "/a~1b"}, {[]string{"a", "b"}, "/a/b"},
		{[]string{"/"}, "/~1"}, {[]string{"~"}, "/~0"}, {[]string{"~0"}, "/~00"}, {[]string{"~1"}, "/~01"}, {[]string{"~01"}, "/~001"}, {[]string{"~10"}, "/~010"},
		{[]string{"//"}, "/~1~1"}, {[]string{"~~"}, "/~0~0"}, {[]string{"/~"}, "/~1~0"}, {[]string{"~/"}, "/~0~1"}, {[]string{"~/~"}, "/~0~1~0"},
		{[]string{"/", "/"}, "/~1/~1"}, {[]string{"~", "1"}, "/~0/1"}, {[]string{"~2"}, "/~02"}, {[]string{"0~"}, "/0~0"},
		{[]string{" "}, "/ "}, {[]string{"\x00\n\"\\%#"}, "/\x00\n\"\\%#"}, {[]string{"\u00e9\U0001f600"}, "/\u00e9\U0001f600"}, {[]string{"tag", "-1", "007"}, "/tag/-1/007"},
		{[]string{"\xff"}, ""}, {[]string{"a", "\xff"}, ""}, {[]string{"\xff", "a"}, ""}, {[]string{"\xc3", "\xa9"}, ""}, {[]string{"a", "\xed\xa0\x80", "b"}, ""},
	}
	for _, row := range rows {
		if got := impl.PutPath(row.steps); got != row.want {
			t.Errorf("PutPath(%q) = %q, want %q", row.steps, got, row.want)
		}
	}
}

// equalSteps returns a pointer of the given number of equal steps.
func equalSteps(step string, many int) []string {
	return slices.Repeat([]string{step}, many)
}

func TestPathsAtTheirLimits(t *testing.T) {
	for _, step := range []string{"", "a", "/", "~", "~1", strings.Repeat("/", 2000), strings.Repeat("~", 2000), strings.Repeat("\u00e9", 1000)} {
		for many := range 16 {
			path := strings.Repeat("/"+strings.ReplaceAll(strings.ReplaceAll(step, "~", "~0"), "/", "~1"), many)
			steps := equalSteps(step, many)
			got, ok := impl.GetPath(path)
			if many > 12 {
				if impl.PutPath(steps) != "" || ok || len(got) != 0 {
					t.Errorf("%d steps %.20q", many, step)
				}
				continue
			}
			if impl.PutPath(steps) != path || !ok || !slices.Equal(got, steps) {
				t.Errorf("%d steps %.20q: %.50q, %.50q, %v", many, step, impl.PutPath(steps), got, ok)
			}
		}
	}
	for _, step := range []string{strings.Repeat("a", 2001), strings.Repeat("/", 2001), strings.Repeat("~", 2001), strings.Repeat("\u00e9", 1000) + "a", strings.Repeat("\U0001f600", 501), strings.Repeat("a", 100000)} {
		path := "/" + strings.ReplaceAll(strings.ReplaceAll(step, "~", "~0"), "/", "~1")
		for _, steps := range [][]string{{step}, {"a", step}, {step, "a"}} {
			if got := impl.PutPath(steps); got != "" {
				t.Errorf("a step of %d bytes: PutPath = %.50q", len(step), got)
			}
		}
		for _, s := range []string{path, "/a" + path, path + "/a"} {
			if got, ok := impl.GetPath(s); ok || len(got) != 0 {
				t.Errorf("a step of %d bytes: GetPath = %.50q, %v", len(step), got, ok)
			}
		}
	}
	if got, ok := impl.GetPath(strings.Repeat("/", 1000000)); ok || len(got) != 0 || impl.PutPath(make([]string, 1000000)) != "" {
		t.Error("a million steps")
	}
}

func checkGetPath(t *testing.T, s string, want []string, wantOk bool) {
	t.Helper()
	got, ok := impl.GetPath(s)
	if ok != wantOk || !slices.Equal(got, want) {
		t.Fatalf("GetPath(%.100q) = %.100q, %v, want %.100q, %v", s, got, ok, want, wantOk)
	}
}

func TestGetPath(t *testing.T) {
	rows := []struct {
		s    string
		want []string
	}{
		{"", nil}, {"/", []string{""}}, {"//", []string{"", ""}}, {"/a", []string{"a"}}, {"/a/", []string{"a", ""}}, {"//a", []string{"", "a"}},
		{"/a/1/b~1~0", []string{"a", "1", "b/~"}}, {"/a~1b", []string{"a/b"}}, {"/~1", []string{"/"}}, {"/~0", []string{"~"}},
		{"/~01", []string{"~1"}}, {"/~00", []string{"~0"}}, {"/~001", []string{"~01"}}, {"/~10", []string{"/0"}}, {"/~11", []string{"/1"}}, {"/~0~1", []string{"~/"}}, {"/~1~0", []string{"/~"}}, {"/~01~0", []string{"~1~"}},
		{"/~0/1", []string{"~", "1"}}, {"/0/00", []string{"0", "00"}}, {"/ ", []string{" "}}, {"/\u00e9", []string{"\u00e9"}}, {"/\\/\"", []string{"\\", "\""}},
	}
	for _, row := range rows {
		checkGetPath(t, row.s, row.want, true)
	}
	for _, s := range []string{
		"a", "a/", "a/b", " /a", "~", "~0", "~1", "~1a", "0", "\xff/a", "\u00e9", "#/a",
		"/~", "/a~", "/~/", "/~/0", "/~0~", "/a/~", "/~2", "/~a", "/~~", "/~~0", "/~~1", "/~ ", "/~/a", "/~\u00e9", "/~\x00", "/~/~0", "/~9", "/~-", "/~00~", "/a~b/c", "/~1~2",
		"/\xff", "/a/\xff", "/\xff/a", "/\xc3", "/\xc3/\xa9", "/\xed\xa0\x80", "/\xc3~1\xa9", "/\xc0\xaf", "/~\xff",
	} {
		checkGetPath(t, s, nil, false)
	}
}

// eachOrder passes on every string of at most the given number of pieces.
func eachOrder(pieces []string, most int, use func(s string)) {
	var extend func(s string, left int)
	extend = func(s string, left int) {
		use(s)
		for _, piece := range pieces {
			if left > 0 {
				extend(s+piece, left-1)
			}
		}
	}
	extend("", most)
}

func TestGetPathOfPiecesInEveryOrder(t *testing.T) {
	check := func(s string) {
		want, ok := stepsByHand(s)
		checkGetPath(t, s, want, ok)
		if ok && impl.PutPath(want) != s {
			t.Fatalf("PutPath(%q) = %q, not %q", want, impl.PutPath(want), s)
		}
	}
	eachOrder([]string{"/", "~", "0", "1", "2", "\xc3", "\xa9"}, 6, check)
	eachOrder([]string{"/", "~0", "~1", "~", "/a"}, 7, check)
}

func TestPointersAreRecoveredFromTheirText(t *testing.T) {
	checkSteps := func(steps ...string) {
		path := impl.PutPath(steps)
		if path != pathByHand(steps) {
			t.Fatalf("PutPath(%q) = %q, not %q", steps, path, pathByHand(steps))
		}
		checkGetPath(t, path, steps, true)
	}
	pieces := []string{"/", "~", "~0", "~1", "~01", "0", "a"}
	eachOrder(pieces, 5, func(s string) { checkSteps(s) })
	eachOrder(pieces, 2, func(a string) {
		eachOrder(pieces, 2, func(b string) { checkSteps(a, b) })
	})
	random := rand.New(rand.NewSource(81))
	for range 5000 {
		steps := []string{}
		for range random.Intn(13) {
			step := randomText(random)
			for range random.Intn(4) {
				step += pieces[random.Intn(len(pieces))]
			}
			steps = append(steps, step)
		}
		checkSteps(steps...)
	}
}

func TestGetPathOfChangedPaths(t *testing.T) {
	random := rand.New(rand.NewSource(82))
	for range 20000 {
		s := []byte(strings.Repeat("/a~0b/~1c/\u00e9", 1+random.Intn(4)))
		for range 1 + random.Intn(3) {
			at := random.Intn(len(s))
			switch random.Intn(3) {
			case 0:
				s[at] = "/~012a\xff"[random.Intn(7)]
			case 1:
				s = slices.Delete(s, at, at+1)
			default:
				s = slices.Insert(s, at, "/~012a\xc3"[random.Intn(7)])
			}
		}
		want, ok := stepsByHand(string(s))
		checkGetPath(t, string(s), want, ok)
	}
}

// parts has parts of every kind, and keys that look like steps of other kinds.
var parts = dict(
	text("a"), list(integer(10), integer(11), dict(text("b/~"), integer(12)), tag(5, list(integer(13)))),
	text(""), integer(14),
	text("tag"), tag(7, tag(8, dict(text("tag"), integer(15), text("0"), integer(16)))),
	integer(1), list(integer(17)),
	text("1"), integer(18),
	integer(2), integer(19),
	text("a/b"), dict(text("~0"), integer(20), text("~"), integer(21), text("~1"), integer(22), text("/"), integer(23), text("~01"), integer(24)),
	text("\u00e9"), dict(text(""), dict(text(""), integer(25))),
	text("e"), list(list(), dict(), text("0"), octets("0"), decimal(15, -1), null, no, yes),
)

func TestAt(t *testing.T) {
	found := map[string]impl.Value{
		"": parts, "/a/0": integer(10), "/a/1": integer(11), "/a/2": dict(text("b/~"), integer(12)), "/a/2/b~1~0": integer(12), "/a/3": tag(5, list(integer(13))), "/a/3/tag": list(integer(13)), "/a/3/tag/0": integer(13),
		"/": integer(14), "/tag/tag/tag/tag": integer(15), "/tag/tag/tag/0": integer(16), "/1": integer(18),
		"/a~1b/~00": integer(20), "/a~1b/~0": integer(21), "/a~1b/~01": integer(22), "/a~1b/~1": integer(23), "/a~1b/~001": integer(24),
		"/\u00e9//": integer(25), "/\u00e9/": dict(text(""), integer(25)), "/e/0": list(), "/e/1": dict(), "/e/2": text("0"), "/e/3": octets("0"), "/e/4": decimal(15, -1), "/e/5": null, "/e/6": no, "/e/7": yes,
	}
	for path, want := range found {
		if got, ok := impl.At(parts, to(path)); !ok || order(got, want) != 0 {
			t.Errorf("At %s = %s, %v, not %s", path, shortened(got), ok, shortened(want))
		}
	}
	for _, path := range []string{
		"/b", "/A", "/a ", "/2", "/1/0", "/0", "//0", "/a/4", "/a/b", "/a/2/b", "/a/2/0", "/a/3/0", "/a/3/", "/a/3/tag/1", "/tag/tag/tag/1", "/tag/tag/tag/", "/tag/7", "/tag/0", "/tag/Tag", "/tag/tag ", "/tag/tag/tag/tag/tag",
		"/a~1b/~01~01", "/a/b/c", "/a~1b/", "/b~1a", "/\u00e8", "/e\u0301", "/\u00e9///", "/e/8", "/e/0/0", "/e/1/", "/e/1/0", "/e/2/0", "/e/3/0", "/e/4/0", "/e/4/E", "/e/5/0", "/e/5/", "/e/6/", "/e/7/tag", "/1/", "/1/tag", "/a/0/0", "/a/0/",
	} {
		if got, ok := impl.At(parts, to(path)); ok || !reflect.DeepEqual(got, impl.Value{}) {
			t.Errorf("At %s = %s, %v", path, shortened(got), ok)
		}
	}
}

// Texts that are no DecText of an index, or not of one that is there.
var noIndexes = []string{
	"", "00", "01", "007", "-0", "-1", "-2", "+0", "+1", " 0", "0 ", "1 ", "\n1", "0.0", "1.0", "1e0", "0x0", "0x1", "0b1", "1_0", "1,", "a", "-", "+", "tag", "\u0661", "\uff11", "\x00", "0\x00",
	"3", "4", "10", "12", "100", "298", "299", "300", "999998", "999999", "1000000", "1000001", "4294967296", "4294967297", "9223372036854775807", "9223372036854775808", "-9223372036854775808", "18446744073709551615", "18446744073709551616", "18446744073709551617", strings.Repeat("9", 100), "0" + strings.Repeat("0", 100),
}

// A text among the values of a map is no key, whatever follows it.
func TestAtATextThatIsNoKey(t *testing.T) {
	for _, v := range []impl.Value{dict(text("k"), text("a")), dict(text("k"), text("a"), text("b"), list()), dict(integer(1), text("a"), integer(2), text("a"), text("c"), null), dict(text("k"), octets("a"), text("b"), dict(text("a"), null))} {
		if got, ok := impl.At(v, []string{"a"}); ok || !reflect.DeepEqual(got, impl.Value{}) {
			t.Errorf("At a of %s = %+v, %v", shortened(v), got, ok)
		}
	}
}

func TestAtAnIndex(t *testing.T) {
	three := list(integer(10), integer(11), integer(12))
	for i := range 3 {
		if got, ok := impl.At(three, []string{strconv.Itoa(i)}); !ok || got.N != 10+i {
			t.Errorf("At %d = %+v, %v", i, got, ok)
		}
	}
	for _, step := range noIndexes {
		for _, v := range []impl.Value{three, list(), list(three)} {
			if got, ok := impl.At(v, []string{step}); ok || !reflect.DeepEqual(got, impl.Value{}) {
				t.Errorf("At %q of %s = %+v, %v", step, shortened(v), got, ok)
			}
		}
		if got, ok := impl.At(dict(text("other"), null, text(step), integer(5)), []string{step}); !ok || got.N != 5 {
			t.Errorf("At the key %q = %+v, %v", step, got, ok)
		}
	}
	longest := list(repeated(null, 299)...)
	longest.Kids[298], longest.Kids[10] = integer(298), integer(10)
	for _, i := range []int{10, 298} {
		if got, ok := impl.At(longest, []string{strconv.Itoa(i)}); !ok || got.N != i {
			t.Errorf("At %d = %+v, %v", i, got, ok)
		}
	}
	for _, step := range []string{"299", "300", "999999", "1000000", "1000001"} {
		if _, ok := impl.At(longest, []string{step}); ok {
			t.Errorf("At %q of 299 elements", step)
		}
	}
}

func TestAtAKeyOfManyBytes(t *testing.T) {
	key := strings.Repeat("k", 2000)
	v := dict(text("a"), null, text(key), integer(1), text(key[1:]), integer(2))
	for step, want := range map[string]int{key: 1, key[1:]: 2} {
		if got, ok := impl.At(v, []string{step}); !ok || got.N != want {
			t.Errorf("At a key of %d bytes = %+v, %v", len(step), got, ok)
		}
	}
	for _, step := range []string{key + "k", key[2:], key[1:] + "\xff", "\xff"} {
		if _, ok := impl.At(v, []string{step}); ok {
			t.Errorf("At a key of %d bytes", len(step))
		}
	}
}

func TestAtTheGreatestDepth(t *testing.T) {
	for levels := range 13 {
		v := wrapped(integer(7), levels)
		got, ok := impl.At(v, equalSteps("0", levels))
		if !ok || order(got, integer(7)) != 0 {
			t.Errorf("%d levels: %+v, %v", levels, got, ok)
		}
		for more := levels + 1; more < 16; more++ {
			if got, ok := impl.At(v, equalSteps("0", more)); ok || !reflect.DeepEqual(got, impl.Value{}) {
				t.Errorf("%d levels, %d steps: %+v, %v", levels, more, got, ok)
			}
		}
	}
	if _, ok := impl.At(parts, make([]string, 1000000)); ok {
		t.Error("a million steps")
	}
}

// tooMany is a list with more elements than an index can tell.
func tooMany() impl.Value {
	return list(make([]impl.Value, 1000002)...)
}

// An atRow is a row of a table: what is at the steps, or the zero Value if they
// lead nowhere.
type atRow struct {
	v     impl.Value
	steps []string
	want  impl.Value
}

// That a value is invalid is no reason to find nothing in it.
func TestAtOfInvalidValues(t *testing.T) {
	bad := text("\xff")
	twice := dict(text("a"), integer(1), text("a"), integer(2), text("b"), list(bad, integer(3)))
	odd := dict(text("a"), integer(1), text("b"))
	keys := dict(octets("a"), integer(1), integer(7), integer(2), list(text("a")), integer(3), impl.Value{Kind: impl.VText, E: 5, S: "a", Kids: []impl.Value{null}}, integer(4))
	unknown := impl.Value{Kind: 11, N: 5, E: 6, S: "s", Kids: []impl.Value{integer(7), text("a"), integer(8)}}
	rows := []atRow{
		{twice, []string{"a"}, integer(1)}, {twice, []string{"b"}, list(bad, integer(3))}, {twice, []string{"b", "0"}, bad}, {twice, []string{"b", "1"}, integer(3)}, {list(null, twice), []string{"1", "a"}, integer(1)},
		{list(null, integer(7), bad), []string{"0"}, null}, {list(null, integer(7), bad), []string{"1"}, integer(7)}, {list(null, integer(7), bad), []string{"2"}, bad},
		{dict(bad, integer(1), text("a"), integer(2)), []string{"a"}, integer(2)}, {dict(bad, integer(1)), []string{"\xff"}, integer(1)}, {odd, []string{"a"}, integer(1)}, {keys, []string{"a"}, integer(4)},
		{tag(-1, bad), []string{"tag"}, bad}, {tag(1000001, list(bad, yes)), []string{"tag", "1"}, yes}, {tag(5, integer(1), integer(2)), []string{"tag"}, integer(1)},
		{list(unknown), []string{"0"}, unknown}, {dict(text("k"), decimal(10, 0)), []string{"k"}, decimal(10, 0)},
		{impl.Value{Kind: impl.VList, N: 1, E: 2, S: "s", Kids: []impl.Value{no}}, []string{"0"}, no},
	}
	for _, v := range []impl.Value{bad, twice, odd, keys, unknown, tag(5), tag(-1, bad), decimal(0, 0), list(bad), {N: 1}} {
		rows = append(rows, atRow{v, nil, v}, atRow{v, []string{}, v}, atRow{list(bad, v), []string{"1"}, v})
	}
	for _, row := range rows {
		if got, ok := impl.At(row.v, row.steps); !ok || order(got, row.want) != 0 || impl.ValueOk(row.v) {
			t.Errorf("At %q of %s = %s, %v", row.steps, shortened(row.v), shortened(got), ok)
		}
	}
	for _, row := range []atRow{
		{v: twice, steps: []string{"c"}}, {v: twice, steps: []string{"0"}}, {v: twice, steps: []string{""}}, {v: twice, steps: []string{"a", "0"}}, {v: twice, steps: []string{"b", "2"}},
		{v: list(null, integer(7), bad), steps: []string{"3"}}, {v: list(null, integer(7), bad), steps: []string{"-1"}}, {v: list(null, integer(7), bad), steps: []string{"01"}}, {v: list(null, integer(7), bad), steps: []string{"1", "0"}}, {v: list(bad), steps: []string{"0", "0"}}, {v: list(bad), steps: []string{"\xff"}},
		{v: odd, steps: []string{"b"}}, {v: odd, steps: []string{"b", "0"}}, {v: dict(text("a")), steps: []string{"a"}}, {v: keys, steps: []string{"7"}}, {v: keys, steps: []string{""}},
		{v: tag(5), steps: []string{"tag"}}, {v: tag(-1, bad), steps: []string{"0"}}, {v: tag(5, integer(1), integer(2)), steps: []string{"1"}}, {v: tag(5, integer(1), integer(2)), steps: []string{"tag", "tag"}},
		{v: unknown, steps: []string{"0"}}, {v: unknown, steps: []string{"a"}}, {v: unknown, steps: []string{"tag"}}, {v: unknown, steps: []string{""}},
		{v: impl.Value{Kids: []impl.Value{yes, yes}}, steps: []string{"0"}}, {v: impl.Value{Kind: impl.VText, S: "t", Kids: []impl.Value{text("a"), yes}}, steps: []string{"a"}}, {v: impl.Value{Kind: impl.VInt, Kids: []impl.Value{yes}}, steps: []string{"tag"}},
	} {
		if got, ok := impl.At(row.v, row.steps); ok || !reflect.DeepEqual(got, impl.Value{}) || impl.ValueOk(row.v) {
			t.Errorf("At %q of %s = %s, %v", row.steps, shortened(row.v), shortened(got), ok)
		}
	}
}

func TestAtEverywhereInInvalidValues(t *testing.T) {
	found := 0
	for why, v := range invalidValues() {
		for _, in := range []impl.Value{v, list(null, v), dict(text("a"), v, text("a"), null), tag(-1, v)} {
			for _, steps := range pointers(someSpots(in)) {
				want, wantOk := partAt(in, steps)
				got, ok := impl.At(in, steps)
				if ok != wantOk || order(got, want) != 0 {
					t.Fatalf("%s: At %q = %s, %v", why, steps, shortened(got), ok)
				}
				if ok {
					found++
				}
			}
		}
	}
	if found < 1000 {
		t.Error("parts that were found:", found)
	}
}

// Only an invalid value has parts beyond the limits of a pointer.
func TestAtBeyondTheLimits(t *testing.T) {
	many := tooMany()
	many.Kids[0], many.Kids[300], many.Kids[999999], many.Kids[1000000] = integer(1), integer(300), integer(999999), integer(1000000)
	for step, want := range map[string]int{"0": 1, "300": 300, "999999": 999999} {
		if got, ok := impl.At(many, []string{step}); !ok || order(got, integer(want)) != 0 {
			t.Errorf("At %s of 1000002 elements = %+v, %v", step, got, ok)
		}
	}
	if got, ok := impl.At(many, nil); !ok || !impl.Same(got, many) {
		t.Error("At of 1000002 elements")
	}
	deep := wrapped(integer(7), 20)
	for levels := range 13 {
		if got, ok := impl.At(deep, equalSteps("0", levels)); !ok || order(got, wrapped(integer(7), 20-levels)) != 0 {
			t.Errorf("At %d steps of 20 levels = %s, %v", levels, shortened(got), ok)
		}
	}
	longest := strings.Repeat("k", 2000)
	long := dict(text(longest+"k"), integer(1), text(longest), integer(2))
	if got, ok := impl.At(long, []string{longest}); !ok || order(got, integer(2)) != 0 {
		t.Errorf("At a key of 2000 bytes = %+v, %v", got, ok)
	}
	for _, row := range []atRow{
		{v: many, steps: []string{"1000000"}}, {v: many, steps: []string{"1000001"}}, {v: many, steps: []string{"1000002"}},
		{v: list(many.Kids[:1000000]...), steps: []string{"1000000"}}, {v: list(many.Kids[:999999]...), steps: []string{"999999"}},
		{v: deep, steps: equalSteps("0", 13)}, {v: deep, steps: equalSteps("0", 20)}, {v: deep, steps: equalSteps("0", 21)}, {v: long, steps: []string{longest + "k"}},
	} {
		if got, ok := impl.At(row.v, row.steps); ok || !reflect.DeepEqual(got, impl.Value{}) {
			t.Errorf("At %d steps %.20q: %s, %v", len(row.steps), row.steps, shortened(got), ok)
		}
	}
}

// oddSteps are steps that lead from few values anywhere.
var oddSteps = []string{"", "0", "1", "2", "00", "-1", "a", "b", "k", "tag", "Tag", "/", "~1", "1000000", "\xff", "\u00e9"}

// pointedValues are valid values with parts of every kind.
func pointedValues() map[string]impl.Value {
	values := validValues()
	values["parts"] = parts
	values["numbered texts"] = textNumbered(20)
	random := rand.New(rand.NewSource(83))
	for i := range 150 {
		values[fmt.Sprint("random ", i)] = randomValue(random, 5, i%2 == 0)
	}
	return values
}

// someSpots are spots of v, all of them unless there are many.
func someSpots(v impl.Value) []spot {
	spots := spotsOf(v)
	if len(spots) > 40 {
		return slices.Concat(spots[:4], spots[len(spots)/2:len(spots)/2+2], spots[len(spots)-4:])
	}
	return spots
}

// pointers are the steps to the given spots, and steps that go on from there.
func pointers(spots []spot) [][]string {
	all := [][]string{}
	for _, s := range spots {
		all = append(all, s.steps)
		next := append(slices.Clone(oddSteps), strconv.Itoa(len(s.node.Kids)), strconv.Itoa(len(s.node.Kids)+1), strconv.Itoa(max(len(s.node.Kids)-1, 0)))
		for _, step := range next {
			all = append(all, append(slices.Clone(s.steps), step))
		}
		all = append(all, append(slices.Clone(s.steps), "0", "a"), append(slices.Clone(s.steps), "zz", "0"))
	}
	return all
}

func TestAtEverywhere(t *testing.T) {
	for why, v := range pointedValues() {
		for _, steps := range pointers(someSpots(v)) {
			want, wantOk := partAt(v, steps)
			if got, ok := impl.At(v, steps); ok != wantOk || order(got, want) != 0 {
				t.Fatalf("%s: At %q = %s, %v", why, steps, shortened(got), ok)
			}
		}
		for _, s := range spotsOf(v) {
			if got, ok := impl.At(v, s.steps); !ok || order(got, s.node) != 0 {
				t.Fatalf("%s: At %q = %s, %v", why, s.steps, shortened(got), ok)
			}
		}
	}
}

// A change is a row of a table: what a deed with the VInt 9 makes of v, or the
// zero Value if it is refused.
type change struct {
	v    impl.Value
	path string
	want impl.Value
}

func checkChanges(t *testing.T, d deed, rows []change) {
	t.Helper()
	for _, row := range rows {
		if row.want.Kind == impl.VNull {
			checkRefused(t, d, row.v, to(row.path), integer(9))
		} else {
			checkDeed(t, d, row.v, to(row.path), integer(9), row.want, true)
		}
	}
}

func TestPut(t *testing.T) {
	nine, none := integer(9), impl.Value{}
	three := ofJson("[1,2,3]")
	checkChanges(t, deeds[0], []change{
		{null, "", nine}, {yes, "", nine}, {three, "", nine}, {dict(), "", nine}, {tag(5, null), "", nine}, {parts, "", nine},
		{three, "/0", ofJson("[9,2,3]")}, {three, "/1", ofJson("[1,9,3]")}, {three, "/2", ofJson("[1,2,9]")}, {three, "/3", ofJson("[1,2,3,9]")}, {three, "/4", none},
		{list(), "/0", ofJson("[9]")}, {list(), "/1", none}, {list(), "/", none}, {list(list()), "/0", ofJson("[9]")}, {list(list()), "/0/0", ofJson("[[9]]")}, {list(list()), "/1", ofJson("[[],9]")}, {list(list()), "/1/0", none}, {list(list()), "/0/1", none},
		{dict(), "/a", ofJson(`{"a":9}`)}, {dict(), "/", ofJson(`{"":9}`)}, {dict(), "/0", ofJson(`{"0":9}`)}, {dict(), "/~1~0", ofJson(`{"/~":9}`)}, {dict(), "/a/b", none},
		{ofJson(`{"b":1,"a":2}`), "/a", ofJson(`{"b":1,"a":9}`)}, {ofJson(`{"b":1,"a":2}`), "/b", ofJson(`{"b":9,"a":2}`)}, {ofJson(`{"b":1,"a":2}`), "/aa", ofJson(`{"b":1,"a":2,"aa":9}`)}, {ofJson(`{"b":1,"a":2}`), "/", ofJson(`{"b":1,"a":2,"":9}`)},
		{ofJson(`{"a":{"b":{"c":1}},"d":2}`), "/a/b/c", ofJson(`{"a":{"b":{"c":9}},"d":2}`)}, {ofJson(`{"a":{"b":{"c":1}},"d":2}`), "/a/b/d", ofJson(`{"a":{"b":{"c":1,"d":9}},"d":2}`)}, {ofJson(`{"a":{"b":{"c":1}},"d":2}`), "/a/b", ofJson(`{"a":{"b":9},"d":2}`)}, {ofJson(`{"a":{"b":{"c":1}},"d":2}`), "/b/c", none},
		{dict(integer(1), yes), "/1", dict(integer(1), yes, text("1"), nine)}, {dict(integer(1), yes, text("1"), no), "/1", dict(integer(1), yes, text("1"), nine)}, {dict(integer(0), list()), "/0/0", none}, {dict(text("k"), text("a")), "/a", dict(text("k"), text("a"), text("a"), nine)}, {ofJson(`{"k":"a","b":1}`), "/a", ofJson(`{"k":"a","b":1,"a":9}`)}, {ofJson(`{"k":"a","b":[1]}`), "/a/0", none},
		{tag(5, null), "/tag", tag(5, nine)}, {tag(5, list()), "/tag/0", tag(5, list(nine))}, {tag(5, tag(6, null)), "/tag/tag", tag(5, tag(6, nine))}, {tag(5, tag(6, null)), "/tag", tag(5, nine)}, {tag(5, null), "/0", none}, {tag(5, null), "/1", none}, {tag(5, null), "/", none}, {tag(5, null), "/5", none}, {tag(5, null), "/Tag", none}, {tag(5, null), "/tag/tag", none}, {tag(5, list()), "/0/tag", none},
		{null, "/", none}, {null, "/0", none}, {no, "/a", none}, {yes, "/tag", none}, {integer(5), "/0", none}, {integer(5), "/", none}, {decimal(15, -1), "/0", none}, {text("a"), "/0", none}, {text("a"), "/1", none}, {text(""), "/0", none}, {octets("a"), "/0", none}, {octets(""), "/", none},
		{ofJson(`[[1,[2]],{"a":[3]}]`), "/0/1/0", ofJson(`[[1,[9]],{"a":[3]}]`)}, {ofJson(`[[1,[2]],{"a":[3]}]`), "/1/a/1", ofJson(`[[1,[2]],{"a":[3,9]}]`)}, {ofJson(`[[1,[2]],{"a":[3]}]`), "/0/2", ofJson(`[[1,[2],9],{"a":[3]}]`)}, {ofJson(`[[1,[2]],{"a":[3]}]`), "/2/0", none}, {ofJson(`[[1,[2]],{"a":[3]}]`), "/1/b", ofJson(`[[1,[2]],{"a":[3],"b":9}]`)},
	})
}

func TestInsert(t *testing.T) {
	nine, none := integer(9), impl.Value{}
	three := ofJson("[1,2,3]")
	checkChanges(t, deeds[1], []change{
		{null, "", nine}, {three, "", nine}, {dict(), "", nine}, {tag(5, null), "", nine},
		{three, "/0", ofJson("[9,1,2,3]")}, {three, "/1", ofJson("[1,9,2,3]")}, {three, "/2", ofJson("[1,2,9,3]")}, {three, "/3", ofJson("[1,2,3,9]")}, {three, "/4", none}, {three, "/-1", none}, {three, "/00", none}, {three, "/", none},
		{list(), "/0", ofJson("[9]")}, {list(), "/1", none}, {list(list()), "/0", ofJson("[9,[]]")}, {list(list()), "/0/0", ofJson("[[9]]")}, {list(list()), "/1", ofJson("[[],9]")}, {list(list()), "/1/0", none},
		{dict(), "/a", ofJson(`{"a":9}`)}, {ofJson(`{"b":1,"a":2}`), "/b", ofJson(`{"b":9,"a":2}`)}, {ofJson(`{"b":1,"a":2}`), "/a", ofJson(`{"b":1,"a":9}`)}, {ofJson(`{"b":1,"a":2}`), "/0", ofJson(`{"b":1,"a":2,"0":9}`)}, {ofJson(`{"a":[1,2]}`), "/a/1", ofJson(`{"a":[1,9,2]}`)}, {ofJson(`{"a":[1,2]}`), "/b/0", none},
		{dict(integer(0), yes), "/0", dict(integer(0), yes, text("0"), nine)},
		{tag(5, null), "/tag", tag(5, nine)}, {tag(5, list(null)), "/tag", tag(5, nine)}, {tag(5, list(null)), "/tag/0", tag(5, list(nine, null))}, {tag(5, list(null)), "/tag/1", tag(5, list(null, nine))}, {tag(5, null), "/0", none}, {tag(5, null), "/1", none},
		{null, "/0", none}, {integer(5), "/0", none}, {decimal(15, -1), "/0", none}, {text("ab"), "/1", none}, {octets("ab"), "/1", none}, {yes, "/", none},
		{ofJson(`[[1,[2]],{"a":[3]}]`), "/0/1/0", ofJson(`[[1,[9,2]],{"a":[3]}]`)}, {ofJson(`[[1,[2]],{"a":[3]}]`), "/0/1", ofJson(`[[1,9,[2]],{"a":[3]}]`)}, {ofJson(`[[1,[2]],{"a":[3]}]`), "/1/a/0", ofJson(`[[1,[2]],{"a":[9,3]}]`)},
	})
}

func TestRemove(t *testing.T) {
	none := impl.Value{}
	three := ofJson("[1,2,3]")
	checkChanges(t, deeds[2], []change{
		{null, "", none}, {three, "", none}, {list(), "", none}, {dict(text("a"), null), "", none}, {tag(5, null), "", none},
		{three, "/0", ofJson("[2,3]")}, {three, "/1", ofJson("[1,3]")}, {three, "/2", ofJson("[1,2]")}, {three, "/3", none}, {three, "/4", none}, {three, "/-1", none}, {three, "/01", none}, {three, "/", none}, {three, "/0/0", none}, {three, "/3/0", none},
		{list(null), "/0", list()}, {list(), "/0", none}, {list(list()), "/0", list()}, {list(list()), "/0/0", none},
		{ofJson(`{"b":1,"a":2,"c":3}`), "/b", ofJson(`{"a":2,"c":3}`)}, {ofJson(`{"b":1,"a":2,"c":3}`), "/a", ofJson(`{"b":1,"c":3}`)}, {ofJson(`{"b":1,"a":2,"c":3}`), "/c", ofJson(`{"b":1,"a":2}`)}, {ofJson(`{"b":1,"a":2}`), "/c", none}, {ofJson(`{"b":1}`), "/b", dict()}, {ofJson(`{"":1}`), "/", dict()}, {ofJson(`{"b":1}`), "/", none}, {dict(), "/a", none}, {dict(), "/", none}, {ofJson(`{"b":"a"}`), "/a", none}, {ofJson(`{"b":"a","c":1}`), "/a", none}, {ofJson(`{"b":1}`), "/0", none}, {ofJson(`{"b":1}`), "/1", none},
		{dict(integer(1), yes), "/1", none}, {dict(integer(1), yes, text("1"), no), "/1", dict(integer(1), yes)}, {dict(text("1"), no, integer(1), yes), "/1", dict(integer(1), yes)},
		{tag(5, null), "/tag", none}, {tag(5, null), "/0", none}, {tag(5, list(null, yes)), "/tag/0", tag(5, list(yes))}, {tag(5, list(null)), "/tag", none}, {tag(5, dict(text("tag"), null)), "/tag/tag", tag(5, dict())}, {list(tag(5, null)), "/0", list()}, {list(tag(5, null)), "/0/tag", none}, {tag(5, tag(6, null)), "/tag/tag", none},
		{null, "/0", none}, {yes, "/", none}, {integer(5), "/0", none}, {decimal(15, -1), "/0", none}, {text("a"), "/0", none}, {octets("a"), "/0", none},
		{ofJson(`[[1,[2]],{"a":[3],"b":4}]`), "/0/1/0", ofJson(`[[1,[]],{"a":[3],"b":4}]`)}, {ofJson(`[[1,[2]],{"a":[3],"b":4}]`), "/0/0", ofJson(`[[[2]],{"a":[3],"b":4}]`)}, {ofJson(`[[1,[2]],{"a":[3],"b":4}]`), "/1/a", ofJson(`[[1,[2]],{"b":4}]`)}, {ofJson(`[[1,[2]],{"a":[3],"b":4}]`), "/1/a/0", ofJson(`[[1,[2]],{"a":[],"b":4}]`)}, {ofJson(`[[1,[2]],{"a":[3],"b":4}]`), "/1", ofJson(`[[1,[2]]]`)},
	})
}

func TestDeedsAtAnIndex(t *testing.T) {
	three := list(integer(10), integer(11), integer(12))
	for _, step := range noIndexes {
		for _, d := range deeds {
			if step != "3" || d.name == "Remove" {
				checkRefused(t, d, three, []string{step}, null)
			}
			checkRefused(t, d, three, []string{step, "0"}, null)
			checkRefused(t, d, list(three), []string{"0", step, "0"}, null)
		}
	}
}

func TestDeedsEverywhere(t *testing.T) {
	given := []impl.Value{null, integer(5), list(null, text("x")), dict(text("tag"), tag(3, octets("\xff"))), text("\xff"), decimal(10, -1), wrapped(null, 8)}
	for _, v := range pointedValues() {
		for i, steps := range pointers(someSpots(v)) {
			for _, d := range deeds {
				checkDeedByHand(t, d, v, steps, given[i%len(given)])
			}
		}
	}
}

func TestDeedsWithInvalidValues(t *testing.T) {
	for _, bad := range invalidValues() {
		for _, d := range deeds[:2] {
			for _, steps := range [][]string{nil, {"a"}, {"a", "0"}, {"a", "3", "tag"}, {"a", "4"}, {"new"}, {"tag", "tag"}} {
				checkRefused(t, d, parts, steps, bad)
			}
		}
		for _, d := range deeds {
			for _, steps := range [][]string{nil, {"0"}, {"1"}, {"a"}, {"k"}, {"tag"}, {"new"}, {"0", "0"}, {"a", "a"}} {
				checkRefused(t, d, bad, steps, null)
			}
		}
	}
}

// What is invalid stays as it is, even if it would be valid without the part
// that is replaced or removed.
func TestDeedsThatWouldMakeAValueValid(t *testing.T) {
	bad := text("\xff")
	for _, d := range deeds {
		checkRefused(t, d, list(bad), []string{"0"}, null)
		checkRefused(t, d, list(null, bad), []string{"1"}, null)
		checkRefused(t, d, dict(text("a"), null, text("b"), bad), []string{"b"}, null)
		checkRefused(t, d, dict(text("a"), null, text("a"), yes), []string{"a"}, null)
		checkRefused(t, d, tag(5, bad), []string{"tag"}, null)
		checkRefused(t, d, tag(5), []string{"tag"}, null)
		checkRefused(t, d, dict(text("a")), []string{"a"}, null)
		checkRefused(t, d, list(repeated(null, 300)...), []string{"0"}, null)
		checkRefused(t, d, wrapped(null, 13), equalSteps("0", 12), null)
		checkRefused(t, d, bad, nil, null)
	}
	if got, ok := impl.Put(tooMany(), []string{"1000000"}, null); ok || len(got.Kids) != 1000002 {
		t.Errorf("Put into 1000002 elements: %d, %v", len(got.Kids), ok)
	}
}

func TestDeedsWithTooManyNodes(t *testing.T) {
	put, insert := deeds[0], deeds[1]
	full, room := list(repeated(null, 299)...), list(repeated(null, 298)...)
	checkDeed(t, put, full, []string{"0"}, yes, list(append([]impl.Value{yes}, full.Kids[1:]...)...), true)
	checkDeed(t, put, full, []string{"298"}, list(), list(append(slices.Clone(room.Kids), list())...), true)
	checkRefused(t, put, full, []string{"0"}, list(null))
	checkRefused(t, put, full, []string{"299"}, null)
	checkRefused(t, insert, full, []string{"0"}, null)
	checkRefused(t, insert, full, []string{"299"}, null)
	for _, d := range deeds[:2] {
		checkDeed(t, d, room, []string{"298"}, null, full, true)
		checkRefused(t, d, room, []string{"298"}, list(null))
		checkDeed(t, d, tag(5, room), nil, full, full, true)
		checkRefused(t, d, tag(5, room), []string{"tag"}, full)
	}
	checkDeed(t, insert, room, []string{"100"}, null, full, true)
	checkRefused(t, insert, room, []string{"0"}, list(null))
	checkDeed(t, put, room, []string{"7"}, list(null), list(append(append(repeated(null, 7), list(null)), repeated(null, 290)...)...), true)
	pairs := textNumbered(149)
	checkDeed(t, put, pairs, []string{"5"}, list(), dict(append(append(slices.Clone(pairs.Kids[:11]), list()), pairs.Kids[12:]...)...), true)
	checkDeed(t, put, pairs, []string{"5"}, list(null), dict(append(append(slices.Clone(pairs.Kids[:11]), list(null)), pairs.Kids[12:]...)...), true)
	checkRefused(t, put, pairs, []string{"5"}, list(null, null))
	fewer := textNumbered(148)
	checkDeed(t, put, fewer, []string{"148"}, null, pairs, true)
	checkDeed(t, put, fewer, []string{"148"}, list(null), dict(append(slices.Clone(fewer.Kids), text("148"), list(null))...), true)
	checkRefused(t, put, fewer, []string{"148"}, list(null, null))
	checkRefused(t, put, pairs, []string{"149"}, null)
}

func TestDeedsBelowTheGreatestDepth(t *testing.T) {
	for _, d := range deeds[:2] {
		deepest := wrapped(list(), 12)
		checkRefused(t, d, deepest, equalSteps("0", 13), null)
		checkDeed(t, d, wrapped(list(), 11), equalSteps("0", 12), null, wrapped(null, 12), true)
		checkDeed(t, d, wrapped(list(), 11), equalSteps("0", 12), list(), deepest, true)
		checkRefused(t, d, wrapped(list(), 11), equalSteps("0", 12), list(null))
		checkDeed(t, d, wrapped(tag(1, null), 11), append(equalSteps("0", 11), "tag"), dict(), wrapped(tag(1, dict()), 11), true)
		checkRefused(t, d, wrapped(tag(1, null), 11), append(equalSteps("0", 11), "tag"), dict(text("a"), null))
		checkRefused(t, d, wrapped(dict(), 12), append(equalSteps("0", 12), "a"), null)
		checkDeed(t, d, wrapped(dict(), 11), append(equalSteps("0", 11), "a"), list(), wrapped(dict(text("a"), list()), 11), true)
		checkDeed(t, d, null, nil, wrapped(null, 12), wrapped(null, 12), true)
		checkRefused(t, d, list(), []string{"0"}, wrapped(null, 12))
		checkRefused(t, d, null, nil, wrapped(null, 13))
	}
	checkDeed(t, deeds[0], wrapped(null, 12), equalSteps("0", 12), yes, wrapped(yes, 12), true)
	checkDeed(t, deeds[1], wrapped(null, 12), equalSteps("0", 12), yes, wrapped(list(yes, null), 11), true)
	checkDeed(t, deeds[2], wrapped(null, 12), equalSteps("0", 12), yes, wrapped(list(), 11), true)
	for _, d := range deeds {
		checkRefused(t, d, wrapped(null, 12), equalSteps("0", 13), null)
		checkRefused(t, d, wrapped(null, 12), equalSteps("0", 20), null)
		checkRefused(t, d, parts, make([]string, 1000000), null)
	}
}

func TestDeedsWithKeysOfManyBytes(t *testing.T) {
	longest := strings.Repeat("k", 2000)
	for _, d := range deeds[:2] {
		for _, key := range []string{longest, strings.Repeat("\u00e9", 1000), strings.Repeat("/", 2000)} {
			checkDeed(t, d, dict(), []string{key}, null, dict(text(key), null), true)
			checkDeed(t, d, dict(text(key), null), []string{key}, yes, dict(text(key), yes), true)
			checkDeed(t, d, list(dict()), []string{"0", key}, text(longest), list(dict(text(key), text(longest))), true)
		}
		for _, key := range []string{longest + "k", strings.Repeat("\u00e9", 1001), "\xff", "a\xc3", "\xed\xa0\x80", strings.Repeat("\xff", 2001)} {
			checkRefused(t, d, dict(), []string{key}, null)
			checkRefused(t, d, dict(text("a"), null), []string{key}, null)
			checkRefused(t, d, list(dict()), []string{"0", key}, null)
			checkRefused(t, d, dict(text("a"), dict()), []string{key, "a"}, null)
		}
		checkRefused(t, d, list(), []string{"0"}, text(longest+"k"))
		checkRefused(t, d, list(), []string{"0"}, octets(longest+"k"))
	}
	checkDeed(t, deeds[2], dict(text(longest), null, text("a"), no), []string{longest}, null, dict(text("a"), no), true)
	checkRefused(t, deeds[2], dict(text(longest), null), []string{longest + "k"}, null)
}

func TestWhatIsPutIsFound(t *testing.T) {
	puts := 0
	for why, v := range pointedValues() {
		for i, steps := range pointers(someSpots(v)) {
			x := []impl.Value{integer(i), list(text("x")), dict(text("y"), null)}[i%3]
			for _, d := range deeds[:2] {
				result, ok := d.do(v, steps, x)
				if !ok {
					continue
				}
				puts++
				if got, found := impl.At(result, steps); !found || order(got, x) != 0 || !impl.ValueOk(result) {
					t.Fatalf("%s: %s at %q: found %s, %v", why, d.name, steps, shortened(got), found)
				}
			}
		}
	}
	if puts < 5000 {
		t.Error("values that were put:", puts)
	}
}

func TestWhatIsRemovedIsGone(t *testing.T) {
	removed := 0
	for why, v := range pointedValues() {
		for _, s := range spotsOf(v) {
			result, ok := impl.Remove(v, s.steps)
			last := len(s.steps) - 1
			if last < 0 {
				continue
			}
			parent, _ := impl.At(v, s.steps[:last])
			if ok != (parent.Kind != impl.VTag) {
				t.Fatalf("%s: Remove at %q = %v", why, s.steps, ok)
			}
			if !ok {
				continue
			}
			removed++
			after, _ := impl.At(result, s.steps[:last])
			gone := slices.Clone(s.steps)
			width := 2
			if parent.Kind == impl.VList {
				gone[last], width = strconv.Itoa(len(parent.Kids)-1), 1
			}
			if _, found := impl.At(result, gone); found || len(after.Kids) != len(parent.Kids)-width || !impl.ValueOk(result) {
				t.Fatalf("%s: Remove at %q: %s", why, s.steps, shortened(result))
			}
		}
	}
	if removed < 1000 {
		t.Error("parts that were removed:", removed)
	}
}

func TestInsertingAndRemovingAgainChangesNothing(t *testing.T) {
	inserted := 0
	for why, v := range pointedValues() {
		for _, s := range someSpots(v) {
			if s.node.Kind != impl.VList || len(s.steps) == 12 {
				continue
			}
			for i := range len(s.node.Kids) + 1 {
				steps := append(slices.Clone(s.steps), strconv.Itoa(i))
				result, ok := impl.Insert(v, steps, yes)
				if !ok {
					if impl.Nodes(v) < 300 {
						t.Fatalf("%s: no Insert at %q", why, steps)
					}
					continue
				}
				inserted++
				again, ok := impl.Remove(result, steps)
				if !ok || order(again, v) != 0 || order(result, v) == 0 {
					t.Fatalf("%s: Insert and Remove at %q: %s, %v", why, steps, shortened(again), ok)
				}
			}
		}
	}
	if inserted < 500 {
		t.Error("elements that were inserted:", inserted)
	}
}

func TestPaths(t *testing.T) {
	rows := []struct {
		v    impl.Value
		want []string
	}{
		{null, []string{""}}, {integer(5), []string{""}}, {text("a"), []string{""}}, {octets("a"), []string{""}}, {decimal(15, -1), []string{""}}, {list(), []string{""}}, {dict(), []string{""}},
		{list(null, yes), []string{"", "/0", "/1"}}, {list(list(), list(null)), []string{"", "/0", "/1", "/1/0"}},
		{ofJson(`{"a":[1,{"b/~":2}],"":3}`), []string{"", "/a", "/a/0", "/a/1", "/a/1/b~1~0", "/"}}, {ofJson(`{"b":{"":{"":1}},"a":"b"}`), []string{"", "/b", "/b/", "/b//", "/a"}},
		{ofJson(`{"~":1,"/":2,"~0":3,"~1":4,"~01":5,"//":6}`), []string{"", "/~0", "/~1", "/~00", "/~01", "/~001", "/~1~1"}},
		{dict(integer(1), list(null, dict(text("a"), null))), []string{""}}, {dict(integer(1), yes, text("1"), list(no), integer(2), null), []string{"", "/1", "/1/0"}},
		{tag(5, null), []string{"", "/tag"}}, {tag(5, tag(6, list(null))), []string{"", "/tag", "/tag/tag", "/tag/tag/0"}}, {tag(5, dict(text("tag"), null, integer(0), null)), []string{"", "/tag", "/tag/tag"}},
		{wrapped(null, 12), []string{"", "/0", "/0/0", "/0/0/0", "/0/0/0/0", "/0/0/0/0/0", "/0/0/0/0/0/0", "/0/0/0/0/0/0/0", "/0/0/0/0/0/0/0/0", "/0/0/0/0/0/0/0/0/0", "/0/0/0/0/0/0/0/0/0/0", "/0/0/0/0/0/0/0/0/0/0/0", "/0/0/0/0/0/0/0/0/0/0/0/0"}},
		{parts, []string{
			"", "/a", "/a/0", "/a/1", "/a/2", "/a/2/b~1~0", "/a/3", "/a/3/tag", "/a/3/tag/0", "/", "/tag", "/tag/tag", "/tag/tag/tag", "/tag/tag/tag/tag", "/tag/tag/tag/0", "/1",
			"/a~1b", "/a~1b/~00", "/a~1b/~0", "/a~1b/~01", "/a~1b/~1", "/a~1b/~001", "/\u00e9", "/\u00e9/", "/\u00e9//", "/e", "/e/0", "/e/1", "/e/2", "/e/3", "/e/4", "/e/5", "/e/6", "/e/7",
		}},
	}
	for _, row := range rows {
		if got := impl.Paths(row.v); !slices.Equal(got, row.want) {
			t.Errorf("Paths of %s = %q, want %q", shortened(row.v), got, row.want)
		}
	}
}

func TestPathsLeadToTheirNodes(t *testing.T) {
	for why, v := range pointedValues() {
		paths := impl.Paths(v)
		spots := spotsOf(v)
		if len(paths) != len(spots) {
			t.Fatalf("%s: %d paths, not %d", why, len(paths), len(spots))
		}
		for i, s := range spots {
			if paths[i] != pathByHand(s.steps) || paths[i] != impl.PutPath(s.steps) {
				t.Fatalf("%s: the path of %.50q is %.50q", why, s.steps, paths[i])
			}
			steps, ok := impl.GetPath(paths[i])
			if got, found := impl.At(v, steps); !ok || !found || order(got, s.node) != 0 {
				t.Fatalf("%s: at %.50q is %s", why, paths[i], shortened(got))
			}
		}
	}
}

func TestPathsOfLongKeys(t *testing.T) {
	key := strings.Repeat("/", 2000)
	v, want := null, []string{""}
	for range 12 {
		v = dict(text(key), v)
		want = append(want, want[len(want)-1]+"/"+strings.Repeat("~1", 2000))
	}
	if got := impl.Paths(v); !slices.Equal(got, want) {
		t.Errorf("%d paths", len(got))
	}
}

func TestPathsOfInvalidValues(t *testing.T) {
	for why, v := range invalidValues() {
		if got := impl.Paths(v); len(got) != 0 {
			t.Errorf("%s: Paths = %.100q", why, got)
		}
	}
}

// roomySteps returns a copy of steps with spare capacity, with texts in it.
func roomySteps(steps ...string) []string {
	room := append(make([]string, 0, len(steps)+3), steps...)
	spare := room[len(room):cap(room)]
	for i := range spare {
		spare[i] = "spare"
	}
	return room
}

func TestPointerArgumentsAreNotModified(t *testing.T) {
	for why, v := range bothKinds() {
		for _, steps := range [][]string{{}, {"0"}, {"1"}, {"a"}, {"new"}, {"k"}, {"tag"}, {"b", "1"}, {"b", "4"}, {"0", "0"}} {
			a, x, room := roomy(v), roomy(mixed), roomySteps(steps...)
			beforeA, beforeX, beforeRoom := full(a), full(x), slices.Clone(room[:cap(room)])
			impl.At(a, room)
			impl.Put(a, room, x)
			impl.Insert(a, room, x)
			impl.Remove(a, room)
			impl.Paths(a)
			impl.PutPath(room)
			if order(full(a), beforeA) != 0 || order(full(x), beforeX) != 0 || !slices.Equal(room[:cap(room)], beforeRoom) {
				t.Errorf("%s: modified at %q", why, steps)
			}
		}
	}
}

// apart returns a copy of v whose strings lie in no memory of the program's
// constants, as equal ones of the package may.
func apart(v impl.Value) impl.Value {
	kids := []impl.Value{}
	for _, kid := range v.Kids {
		kids = append(kids, apart(kid))
	}
	v.Kids, v.S = kids, strings.Clone(v.S)
	return v
}

// ofTexts returns the strings as texts of one value, to look at their memory.
func ofTexts(texts []string) impl.Value {
	v := list()
	for _, s := range texts {
		v.Kids = append(v.Kids, text(s))
	}
	return v
}

func TestPointerResultsShareNoMemory(t *testing.T) {
	same := []impl.Value{text("same"), list(text("other"))}
	values := map[string]impl.Value{
		"mixed":          mixed,
		"parts":          parts,
		"one list twice": list(list(same...), tag(1, list(same...)), dict(text("kk"), list(same...))),
		"invalid":        list(text("\xff"), list(null, octets("cc"))),
		"a key twice":    dict(text("aa"), list(text("bb"), list(null)), text("aa"), list(text("cc"))),
		"a tag of two":   tag(-1, list(same...), list(same...)),
		"too deep":       wrapped(list(text("dd"), list(same...)), 14),
		"a text":         text("tt"),
	}
	for why, v := range values {
		v = roomy(apart(v))
		all := [][]string{nil, {"none", "0"}, {"new"}, {"0"}}
		for i, s := range spotsOf(v) {
			next := []string{"new", strconv.Itoa(len(s.node.Kids))}[i%2]
			all = append(all, s.steps, append(slices.Clone(s.steps), next))
		}
		for _, steps := range all {
			for i, step := range steps {
				steps[i] = strings.Clone(step)
			}
			for i, x := range []impl.Value{roomy(list(text("xx"), dict(text("yy"), list(null)))), text("\xff\xff"), v} {
				d := deeds[(i+len(steps))%3]
				got, _ := d.do(v, steps, x)
				checkNew(t, why+": "+d.name, got, list(v, x, ofTexts(steps)))
			}
			given := list(v, ofTexts(steps))
			got, _ := impl.At(v, steps)
			checkNew(t, why+": At", got, given)
			checkNewStrings(t, why+": PutPath", []string{impl.PutPath(steps)}, given)
		}
		checkNewStrings(t, why+": Paths", impl.Paths(v), v)
	}
	for _, s := range []string{"/abc", "/abc/def//gh", "/a~0b/c~1d/~01", "abc", "/abc/~"} {
		s = strings.Clone(s)
		steps, _ := impl.GetPath(s)
		checkNewStrings(t, "GetPath", steps, text(s))
		path := impl.PutPath(steps)
		checkNewStrings(t, "PutPath", []string{path}, ofTexts(append(steps, s)))
	}
}

// Values of many levels, and such as contain themselves, are invalid. What is
// found in one that contains itself has no Kids if it contains itself too.
func TestPointersIntoEndlessValues(t *testing.T) {
	const levels = 20000
	defer debug.SetMaxStack(debug.SetMaxStack(1 << 20))
	kids := repeated(text("k"), 2)
	kids[1] = dict(text("k"), impl.Value{Kind: impl.VMap, Kids: kids})
	zeros, ks := equalSteps("0", levels), equalSteps("k", levels)
	for _, v := range []impl.Value{dict(kids...), list(dict(kids...)), list(dict(kids...), list(text("a"))), kids[1], wrapped(text("a"), levels)} {
		for _, steps := range [][]string{nil, {"0"}, {"1"}, {"1", "0"}, {"k"}, {"0", "k"}, {"k", "none"}, zeros[:12], ks[:12], zeros[:13], ks[:13], zeros, ks} {
			checkEndlessPointer(t, v, steps)
		}
	}
}

func checkEndlessPointer(t *testing.T, v impl.Value, steps []string) {
	t.Helper()
	want, wantOk := partAt(v, steps)
	got, ok := impl.At(v, steps)
	// What contains itself has one node.
	if ok != wantOk || !impl.Same(got, want) || impl.Nodes(want) == 1 && len(got.Kids) != 0 {
		t.Errorf("At %d steps of an endless value: %v", len(steps), ok)
	}
	if len(impl.Paths(v)) != 0 {
		t.Error("an endless value has paths")
	}
	for _, d := range deeds {
		if got, ok := d.do(v, steps, null); ok || !impl.Same(got, v) {
			t.Error(d.name, "of an endless value")
		}
		if got, ok := d.do(list(yes), steps[:min(len(steps), 1)], v); ok != (d.name == "Remove" && len(steps) > 0 && steps[0] == "0") || !ok && order(got, list(yes)) != 0 {
			t.Error(d.name, "with an endless value")
		}
	}
}
