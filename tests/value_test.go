package tests

import (
	"cmp"
	"fmt"
	"math"
	"math/big"
	"reflect"
	"runtime/debug"
	"slices"
	"strconv"
	"strings"
	"testing"
	"unsafe"

	"loop.example/g00421/impl"
)

// The tests of chapter 2 (promise 2).

func integer(n int) impl.Value { return impl.Value{Kind: impl.VInt, N: n} }

func decimal(n int, e int) impl.Value { return impl.Value{Kind: impl.VDec, N: n, E: e} }

func text(s string) impl.Value { return impl.Value{Kind: impl.VText, S: s} }

func octets(s string) impl.Value { return impl.Value{Kind: impl.VBytes, S: s} }

func list(kids ...impl.Value) impl.Value { return impl.Value{Kind: impl.VList, Kids: kids} }

func dict(kids ...impl.Value) impl.Value { return impl.Value{Kind: impl.VMap, Kids: kids} }

func tag(n int, kids ...impl.Value) impl.Value {
	return impl.Value{Kind: impl.VTag, N: n, Kids: kids}
}

var (
	null  = impl.Value{Kind: impl.VNull}
	no    = impl.Value{Kind: impl.VFalse}
	yes   = impl.Value{Kind: impl.VTrue}
	mixed = dict(
		text("b"), list(integer(1), decimal(-15, -1), text("b"), octets("\xff")),
		integer(3), tag(7, dict(text("z"), null, text("y"), no, integer(-1), yes)),
		text("a"), dict(),
		integer(-3), list(),
		text(""), text("deep"),
	)
)

// wrapped returns v within the given number of lists.
func wrapped(v impl.Value, levels int) impl.Value {
	for range levels {
		v = list(v)
	}
	return v
}

func repeated(v impl.Value, many int) []impl.Value {
	return slices.Repeat([]impl.Value{v}, many)
}

// numbered returns a VMap with the given number of pairs.
func numbered(pairs int) impl.Value {
	v := dict()
	for i := range pairs {
		v.Kids = append(v.Kids, integer(i), null)
	}
	return v
}

func shortened(v impl.Value) string {
	s := fmt.Sprintf("%+v", v)
	return s[:min(len(s), 200)]
}

func validValues() map[string]impl.Value {
	return map[string]impl.Value{
		"null":                          null,
		"the zero value":                {},
		"false":                         no,
		"true":                          yes,
		"0":                             integer(0),
		"the least integer":             integer(math.MinInt),
		"the greatest integer":          integer(math.MaxInt),
		"least E":                       decimal(1, -20),
		"greatest E":                    decimal(1, 20),
		"greatest N":                    decimal(999999999999999999, -1),
		"least N":                       decimal(-999999999999999999, -1),
		"greatest N and E":              decimal(999999999999999999, 20),
		"least N, greatest E":           decimal(-999999999999999999, 20),
		"just beyond 64 bits":           decimal(922337203685477581, 1),
		"just below 64 bits":            decimal(-922337203685477581, 1),
		"10^19":                         decimal(1, 19),
		"-10^19":                        decimal(-1, 19),
		"93 * 10^17":                    decimal(93, 17),
		"15 * 10^19":                    decimal(15, 19),
		"an empty text":                 text(""),
		"a text of MaxBytes":            text(strings.Repeat("a", 2000)),
		"a text of MaxBytes, long ones": text(strings.Repeat("\U0001f600", 500)),
		"the last code point":           text("\U0010ffff"),
		"no bytes":                      octets(""),
		"any bytes":                     octets("\x00\xff\xc3("),
		"bytes of MaxBytes":             octets(strings.Repeat("\xff", 2000)),
		"an empty list":                 list(),
		"a list with an empty slice":    {Kind: impl.VList, Kids: []impl.Value{}},
		"a null with an empty slice":    {Kids: []impl.Value{}},
		"a list of equal elements":      list(null, null, list(), list()),
		"an empty map":                  dict(),
		"a text key":                    dict(text("a"), null),
		"an empty key":                  dict(text(""), null),
		"an integer key":                dict(integer(-1), null),
		"a text and an integer key":     dict(text("1"), null, integer(1), null),
		"keys 0 and empty":              dict(text(""), null, integer(0), null),
		"equal values":                  dict(text("a"), text("a"), text("b"), text("a")),
		"a key again further down":      dict(text("a"), dict(text("a"), null)),
		"a key of MaxBytes":             dict(text(strings.Repeat("k", 2000)), null),
		"the least tag":                 tag(0, null),
		"the greatest tag":              tag(1000000, null),
		"a tag of a tag":                tag(4, tag(4, list())),
		"MaxNodes in a list":            list(repeated(null, 299)...),
		"MaxNodes in two lists":         list(list(repeated(null, 149)...), list(repeated(null, 148)...)),
		"MaxNodes in a map in a tag":    tag(1, numbered(149)),
		"299 nodes in a map":            numbered(149),
		"MaxDeep lists":                 wrapped(null, 12),
		"MaxDeep levels to a list":      wrapped(list(), 12),
		"MaxDeep levels of all kinds":   wrapped(tag(1, dict(text("a"), tag(1, wrapped(null, 5)))), 4),
		"of everything":                 mixed,
	}
}

func invalidValues() map[string]impl.Value {
	kid := []impl.Value{null}
	bad := map[string]impl.Value{
		"kind -1":                       {Kind: -1},
		"kind 10":                       {Kind: 10},
		"the least kind":                {Kind: math.MinInt},
		"the greatest kind":             {Kind: math.MaxInt},
		"kind 2^32":                     {Kind: 1 << 32},
		"E 0":                           decimal(15, 0),
		"E -21":                         decimal(1, -21),
		"E 21":                          decimal(1, 21),
		"the least E":                   decimal(1, math.MinInt),
		"the greatest E":                decimal(1, math.MaxInt),
		"N 0":                           decimal(0, -1),
		"N 0, E 20":                     decimal(0, 20),
		"N 10":                          decimal(10, -1),
		"N -10":                         decimal(-10, -1),
		"N 10, E 20":                    decimal(10, 20),
		"N 1500":                        decimal(1500, -3),
		"N too great":                   decimal(1000000000000000001, -1),
		"N too small":                   decimal(-1000000000000000001, -1),
		"N 10^18":                       decimal(1000000000000000000, -1),
		"the least N":                   decimal(math.MinInt, -1),
		"the greatest N":                decimal(math.MaxInt, -1),
		"150":                           decimal(15, 1),
		"9 * 10^18":                     decimal(9, 18),
		"-9 * 10^18":                    decimal(-9, 18),
		"92 * 10^17":                    decimal(92, 17),
		"just within 64 bits":           decimal(922337203685477579, 1),
		"just within 64 bits, negative": decimal(-922337203685477579, 1),
		"no text":                       text("\xff"),
		"half a text":                   text("a\xc3"),
		"a half of a pair":              text("\xed\xa0\x80"),
		"a text too long":               text(strings.Repeat("a", 2001)),
		"a text too long, in signs":     text(strings.Repeat("\u00e9", 1001)),
		"bytes too long":                octets(strings.Repeat("a", 2001)),
		"one Kid":                       dict(text("a")),
		"three Kids":                    dict(text("a"), null, text("b")),
		"a text key twice":              dict(text("a"), integer(1), text("a"), integer(2)),
		"an integer key twice":          dict(integer(1), null, text("a"), null, integer(1), null),
		"an empty key twice":            dict(text(""), null, text(""), null),
		"a pair twice":                  dict(text("a"), null, text("a"), null),
		"a key twice, far apart":        dict(append(append([]impl.Value{text("k"), null}, numbered(100).Kids...), text("k"), null)...),
		"a key twice further down":      list(dict(text("a"), dict(integer(0), null, integer(0), null))),
		"a key too long":                dict(text(strings.Repeat("k", 2001)), null),
		"a key that is no text":         dict(text("\xff"), null),
		"a key with E":                  dict(impl.Value{Kind: impl.VInt, E: 1}, null),
		"a key with Kids":               dict(impl.Value{Kind: impl.VText, Kids: kid}, null),
		"a tag -1":                      tag(-1, null),
		"a tag 1000001":                 tag(1000001, null),
		"the least tag":                 tag(math.MinInt, null),
		"the greatest tag":              tag(math.MaxInt, null),
		"a tag of nothing":              tag(1),
		"a tag of two":                  tag(1, null, null),
		"MaxNodes + 1 in a list":        list(repeated(null, 300)...),
		"MaxNodes + 1 in lists":         list(list(repeated(null, 149)...), list(repeated(null, 149)...)),
		"MaxNodes + 1 in a map":         list(tag(1, numbered(149))),
		"301 nodes in a map":            numbered(150),
		"MaxDeep + 1 lists":             wrapped(null, 13),
		"MaxDeep + 1 in the last":       list(null, wrapped(null, 12), null),
		"MaxDeep + 1 of all kinds":      wrapped(tag(1, dict(text("a"), tag(1, wrapped(null, 5)))), 5),
		"an invalid element":            list(null, decimal(1, 1)),
		"an invalid value of a key":     dict(text("a"), text("\xff")),
		"an invalid element of a tag":   tag(1, tag(-1, null)),
		"a kind 10 far down":            wrapped(impl.Value{Kind: 10}, 12),
	}
	for _, v := range []impl.Value{null, no, yes, decimal(1, -1), octets("a"), list(), dict(), tag(1, null), {Kind: 10}} {
		bad[fmt.Sprint("a key of kind ", v.Kind)] = dict(v, null)
	}
	for kind, used := range []string{"", "", "", "N", "NE", "S", "S", "Kids", "Kids", "NKids"} {
		for field, with := range map[string]impl.Value{"N": {N: 1}, "E": {E: -1}, "S": {S: "a"}, "Kids": {Kids: []impl.Value{text("k"), null}}} {
			if !strings.Contains(used, field) {
				v := plainOf(kind)
				with.Kind, with.N, with.E, with.S = kind, with.N+v.N, with.E+v.E, with.S+v.S
				with.Kids = append(with.Kids, v.Kids...)
				bad[fmt.Sprint("kind ", kind, " with ", field)] = with
			}
		}
	}
	return bad
}

// plainOf returns a small valid value of a kind.
func plainOf(kind int) impl.Value {
	return []impl.Value{null, no, yes, integer(5), decimal(5, -1), text("t"), octets("b"), list(null), dict(text("k"), null), tag(5, null)}[kind]
}

// bothKinds are all of validValues and invalidValues.
func bothKinds() map[string]impl.Value {
	all := validValues()
	for why, v := range invalidValues() {
		all[why] = v
	}
	return all
}

func TestValueConstants(t *testing.T) {
	kinds := []int{impl.VNull, impl.VFalse, impl.VTrue, impl.VInt, impl.VDec, impl.VText, impl.VBytes, impl.VList, impl.VMap, impl.VTag}
	for i, kind := range kinds {
		if kind != i {
			t.Errorf("kind %d is %d", i, kind)
		}
	}
	if impl.MaxDeep != 12 || impl.MaxNodes != 300 || impl.MaxBytes != 2000 {
		t.Error("limits", impl.MaxDeep, impl.MaxNodes, impl.MaxBytes)
	}
}

func TestValueOk(t *testing.T) {
	for why, v := range validValues() {
		if !impl.ValueOk(v) {
			t.Errorf("%s: no valid value: %s", why, shortened(v))
		}
	}
	for why, v := range invalidValues() {
		if impl.ValueOk(v) {
			t.Errorf("%s: a valid value: %s", why, shortened(v))
		}
	}
}

// The limits hold at every place of a value, not at its top alone.
func TestValueOkOfParts(t *testing.T) {
	places := map[string]func(impl.Value) impl.Value{
		"first element": func(v impl.Value) impl.Value { return list(v, null) },
		"last element":  func(v impl.Value) impl.Value { return list(null, v) },
		"last value":    func(v impl.Value) impl.Value { return dict(text("a"), null, integer(1), v) },
		"tagged":        func(v impl.Value) impl.Value { return tag(3, v) },
	}
	for place, in := range places {
		for why, v := range bothKinds() {
			want := impl.ValueOk(v) && impl.Nodes(in(v)) <= 300 && impl.Deep(in(v)) <= 12
			if impl.ValueOk(in(v)) != want {
				t.Errorf("%s as %s: not %v", why, place, want)
			}
		}
	}
}

func decimalOk(n int, e int) bool {
	if e < -20 || e > 20 || e == 0 || n < -999999999999999999 || n > 999999999999999999 || n == 0 || n%10 == 0 {
		return false
	}
	if e < 0 {
		return true
	}
	number := new(big.Int).Exp(big.NewInt(10), big.NewInt(int64(e)), nil)
	return !number.Mul(number, big.NewInt(int64(n))).IsInt64()
}

func TestValueOkOfDecimals(t *testing.T) {
	numbers := []int{0, math.MinInt, math.MaxInt, 1 << 32, 1 << 53}
	for power := 1; ; power *= 10 {
		for _, digits := range []int{1, 2, 5, 9} {
			for near := -2; near <= 2; near++ {
				numbers = append(numbers, digits*power+near, math.MaxInt/power+near)
			}
		}
		if power == 1000000000000000000 {
			break
		}
	}
	for _, number := range numbers {
		for _, n := range []int{number, -number} {
			for e := -23; e <= 23; e++ {
				if impl.ValueOk(decimal(n, e)) != decimalOk(n, e) {
					t.Fatalf("ValueOk of the VDec %d, %d: not %v", n, e, decimalOk(n, e))
				}
			}
		}
	}
}

// order is Compare as the document puts it.
func order(a impl.Value, b impl.Value) int {
	for _, two := range [][2]int{{a.Kind, b.Kind}, {a.N, b.N}, {a.E, b.E}, {strings.Compare(a.S, b.S), 0}, {len(a.Kids), len(b.Kids)}} {
		if two[0] < two[1] {
			return -1
		}
		if two[0] > two[1] {
			return 1
		}
	}
	for i := range a.Kids {
		if c := order(a.Kids[i], b.Kids[i]); c != 0 {
			return c
		}
	}
	return 0
}

func orderedValues() []impl.Value {
	values := []impl.Value{}
	for _, kind := range []int{math.MinInt, -1, 0, 1, 2, 3, 4, 5, 6, 7, 8, 9, 10, math.MaxInt} {
		values = append(values, impl.Value{Kind: kind})
	}
	for _, n := range []int{math.MinInt, math.MinInt + 1, -10, -9, 1, 9, 10, math.MaxInt} {
		values = append(values, integer(n), decimal(n, -1), decimal(n, 1), decimal(1, n), tag(n, null))
	}
	for _, s := range []string{"\x00", "a", "aa", "ab", "b", "B", "\x7f", "\x80", "\xff", "a\xff", "\u00e9"} {
		values = append(values, text(s), octets(s), list(text(s)), impl.Value{Kind: impl.VInt, N: 1, S: s})
	}
	for _, kids := range [][]impl.Value{{null}, {no}, {null, null}, {null, no}, {yes, null}, {list()}, {list(null)}, {list(yes), null}, {list(null), yes}, {list(), list(null)}, {list(null), list()}, {text("a"), integer(1)}, {text("a"), integer(2)}, {text("b"), integer(1)}, {null, null, null}} {
		values = append(values, list(kids...), dict(kids...), tag(1, kids...))
	}
	return values
}

func TestTheOrderOfValuesIsTotal(t *testing.T) {
	values := orderedValues()
	table := make([][]int, len(values))
	for i, a := range values {
		for _, b := range values {
			table[i] = append(table[i], impl.Compare(a, b))
			if want := order(a, b); impl.Compare(a, b) != want || impl.Same(a, b) != (want == 0) {
				t.Fatalf("Compare %+v, %+v = %d, Same = %v", a, b, impl.Compare(a, b), impl.Same(a, b))
			}
		}
	}
	for i := range values {
		for j := range values {
			if table[i][j] != -table[j][i] {
				t.Fatalf("Compare of %+v, %+v both ways: %d, %d", values[i], values[j], table[i][j], table[j][i])
			}
			if (table[i][j] == 0) != reflect.DeepEqual(values[i], values[j]) {
				t.Fatalf("Compare of %+v, %+v: %d", values[i], values[j], table[i][j])
			}
			for k := range values {
				if table[i][j] <= 0 && table[j][k] <= 0 && table[i][k] > 0 {
					t.Fatalf("no order: %+v, %+v, %+v", values[i], values[j], values[k])
				}
			}
		}
	}
}

func checkAscending(t *testing.T, ascending []impl.Value, compare func(impl.Value, impl.Value) int) {
	t.Helper()
	for i, a := range ascending {
		for j, b := range ascending {
			if got, want := compare(a, b), cmp.Compare(i, j); got != want {
				t.Errorf("the order of %+v, %+v is %d, not %d", a, b, got, want)
			}
		}
	}
}

func TestCompare(t *testing.T) {
	ascending := []impl.Value{
		{Kind: -1, N: 9}, {E: -1}, null, {Kids: []impl.Value{null}}, {S: "a"}, {E: 1}, {N: 1},
		no, yes, integer(-1), integer(0), integer(1), decimal(15, -2), decimal(15, -1), decimal(25, -2),
		text(""), text("Z"), text("a"), text("a\x00"), text("aa"), text("b"), octets(""), octets("\xff"),
		list(), list(null), list(octets("z")), list(list()), list(null, null), list(null, integer(1)), list(integer(1), null),
		list(list(null), integer(9)), list(list(integer(1)), integer(1)), list(list(null, null), null),
		dict(), dict(text("a"), integer(2)), dict(text("b"), integer(1)), tag(1, integer(9)), tag(2, integer(1)), tag(2, text("")), {Kind: 10},
	}
	checkAscending(t, ascending, impl.Compare)
}

// The pairs of a map are compared in the order in which they stand.
func TestSameRegardsTheOrderOfPairs(t *testing.T) {
	a := dict(text("a"), null, text("b"), null)
	b := dict(text("b"), null, text("a"), null)
	if impl.Same(a, b) || impl.Compare(a, b) != -1 || !impl.Same(impl.Sorted(a), impl.Sorted(b)) {
		t.Error("pairs in another order")
	}
}

func TestNilAndEmptyKidsAreTheSame(t *testing.T) {
	a := list(list(), dict(), text("a"))
	b := list(impl.Value{Kind: impl.VList, Kids: []impl.Value{}}, impl.Value{Kind: impl.VMap, Kids: make([]impl.Value, 0, 5)}, impl.Value{Kind: impl.VText, S: "a", Kids: []impl.Value{}})
	if !impl.Same(a, b) || impl.Compare(a, b) != 0 || !impl.ValueOk(b) || impl.Deep(b) != 1 || impl.Nodes(b) != 4 {
		t.Error("nil and empty Kids")
	}
}

// nodesOf lists the nodes of v in depth-first order, with their levels.
func nodesOf(v impl.Value, level int) ([]impl.Value, []int) {
	nodes, levels := []impl.Value{v}, []int{level}
	for _, kid := range v.Kids {
		n, l := nodesOf(kid, level+1)
		nodes, levels = append(nodes, n...), append(levels, l...)
	}
	return nodes, levels
}

func TestNodesDeepCountAndStrings(t *testing.T) {
	values := bothKinds()
	for i, v := range orderedValues() {
		values[strconv.Itoa(i)] = v
	}
	for why, v := range values {
		nodes, levels := nodesOf(v, 0)
		if got := impl.Nodes(v); got != len(nodes) {
			t.Errorf("%s: Nodes = %d, not %d", why, got, len(nodes))
		}
		if got := impl.Deep(v); got != slices.Max(levels) {
			t.Errorf("%s: Deep = %d, not %d", why, got, slices.Max(levels))
		}
		counts := map[int]int{-1: 0, 0: 0, 9: 0, 10: 0, math.MinInt: 0}
		strs := []string{}
		for _, n := range nodes {
			counts[n.Kind]++
			if n.Kind == 5 || n.Kind == 6 {
				strs = append(strs, n.S)
			}
		}
		for kind, want := range counts {
			if got := impl.Count(v, kind); got != want {
				t.Errorf("%s: Count of %d = %d, not %d", why, kind, got, want)
			}
		}
		if got := impl.Strings(v); !slices.Equal(got, strs) {
			t.Errorf("%s: Strings = %.200q, not %.200q", why, got, strs)
		}
	}
}

func TestNodesDeepCountAndStringsByHand(t *testing.T) {
	if impl.Nodes(null) != 1 || impl.Deep(null) != 0 || impl.Deep(list()) != 0 || impl.Deep(list(null)) != 1 {
		t.Error("small values")
	}
	if impl.Nodes(mixed) != 22 || impl.Deep(mixed) != 3 {
		t.Error("mixed", impl.Nodes(mixed), impl.Deep(mixed))
	}
	for kind, want := range []int{1, 1, 1, 4, 1, 7, 1, 2, 3, 1} {
		if got := impl.Count(mixed, kind); got != want {
			t.Errorf("Count of %d = %d", kind, got)
		}
	}
	if got := impl.Strings(mixed); !slices.Equal(got, []string{"b", "b", "\xff", "z", "y", "a", "", "deep"}) {
		t.Errorf("Strings = %q", got)
	}
	if got := impl.Strings(impl.Value{Kind: impl.VInt, S: "not told"}); len(got) != 0 {
		t.Errorf("Strings of a VInt = %q", got)
	}
}

// sortedByHand moves the least pair of every map to its front, again and again.
func sortedByHand(v impl.Value) impl.Value {
	kids := []impl.Value{}
	for _, kid := range v.Kids {
		kids = append(kids, sortedByHand(kid))
	}
	for i := 0; v.Kind == impl.VMap && i < len(kids); i += 2 {
		for j := i + 2; j < len(kids); j += 2 {
			if order(kids[j], kids[i]) < 0 {
				kids[i], kids[i+1], kids[j], kids[j+1] = kids[j], kids[j+1], kids[i], kids[i+1]
			}
		}
	}
	v.Kids = kids
	return v
}

func keysAscend(v impl.Value) bool {
	for i := 2; v.Kind == impl.VMap && i < len(v.Kids); i += 2 {
		if order(v.Kids[i-2], v.Kids[i]) >= 0 {
			return false
		}
	}
	return !slices.ContainsFunc(v.Kids, func(kid impl.Value) bool { return !keysAscend(kid) })
}

// shuffledMap returns a valid VMap whose keys are in no order.
func shuffledMap(pairs int, step int) impl.Value {
	v := dict()
	for i := range pairs {
		k := i * step % 151
		key := integer(k - 75)
		if k%3 == 0 {
			key = text(strconv.Itoa(k))
		}
		v.Kids = append(v.Kids, key, integer(i))
	}
	return v
}

func sortableValues() map[string]impl.Value {
	values := validValues()
	for _, pairs := range []int{2, 3, 5, 12, 13, 50, 149} {
		for _, step := range []int{1, 2, 50, 150} {
			values[fmt.Sprint(pairs, " pairs by ", step)] = shuffledMap(pairs, step)
		}
	}
	values["maps in everything"] = list(shuffledMap(20, 7), tag(5, list(shuffledMap(30, 11))), dict(text("b"), shuffledMap(15, 4), text("a"), tag(1, shuffledMap(9, 100))))
	return values
}

func TestSortedKeepsTheNodes(t *testing.T) {
	for why, v := range sortableValues() {
		got := impl.Sorted(v)
		if !impl.ValueOk(got) || !keysAscend(got) || order(got, sortedByHand(v)) != 0 {
			t.Errorf("%s: Sorted = %s", why, shortened(got))
		}
		if !impl.Same(impl.Sorted(got), got) {
			t.Errorf("%s: Sorted of Sorted", why)
		}
		// The contents of lists and maps change with the order, so that the
		// nodes are held against each other without their Kids.
		before, _ := nodesOf(v, 0)
		after, _ := nodesOf(got, 0)
		for _, nodes := range [][]impl.Value{before, after} {
			for i := range nodes {
				nodes[i].N += 10 * len(nodes[i].Kids)
				nodes[i].Kids = nil
			}
			slices.SortFunc(nodes, order)
		}
		if !slices.EqualFunc(before, after, func(a, b impl.Value) bool { return order(a, b) == 0 }) {
			t.Errorf("%s: Sorted has other nodes", why)
		}
		if impl.Nodes(got) != impl.Nodes(v) || impl.Deep(got) != impl.Deep(v) {
			t.Errorf("%s: Sorted has %d nodes, %d levels", why, impl.Nodes(got), impl.Deep(got))
		}
		for _, key := range impl.Keys(v) {
			a, _ := impl.Field(v, key)
			if b, ok := impl.Field(got, key); !ok || !impl.Same(impl.Sorted(a), b) {
				t.Errorf("%s: Sorted has another value for %q", why, key)
			}
		}
	}
}

func TestSortedByHand(t *testing.T) {
	got := impl.Sorted(mixed)
	want := dict(
		integer(-3), list(),
		integer(3), tag(7, dict(integer(-1), yes, text("y"), no, text("z"), null)),
		text(""), text("deep"),
		text("a"), dict(),
		text("b"), list(integer(1), decimal(-15, -1), text("b"), octets("\xff")),
	)
	if !impl.Same(got, want) {
		t.Errorf("Sorted = %+v", got)
	}
	elements := list(text("b"), integer(1), text("a"), integer(2), integer(3), integer(0))
	if got := impl.Sorted(elements); !impl.Same(got, elements) {
		t.Errorf("Sorted changes the order of a list: %+v", got)
	}
}

func TestSortedOfInvalidValues(t *testing.T) {
	values := invalidValues()
	values["unsorted, a key twice"] = dict(text("b"), integer(1), text("a"), integer(2), text("b"), integer(3))
	values["unsorted, an odd number"] = dict(text("b"), integer(1), text("a"))
	values["unsorted, another invalid"] = list(dict(text("b"), integer(1), text("a"), integer(2)), text("\xff"))
	for why, v := range values {
		if got := impl.Sorted(v); order(got, v) != 0 {
			t.Errorf("%s: Sorted = %s", why, shortened(got))
		}
	}
}

func TestFieldAndKeys(t *testing.T) {
	twice := dict(text("a"), integer(1), integer(7), integer(2), text("b"), integer(3), text("a"), integer(4), text(""), text("a"), text("b"), integer(5))
	rows := []struct {
		why  string
		v    impl.Value
		keys []string
		has  map[string]impl.Value
		not  []string
	}{
		{"a map", mixed, []string{"b", "a", ""}, map[string]impl.Value{"a": dict(), "": text("deep"), "b": mixed.Kids[1]}, []string{"z", "3", "deep", "\xff"}},
		{"keys that occur twice", twice, []string{"a", "b", "a", "", "b"}, map[string]impl.Value{"a": integer(1), "b": integer(3), "": text("a")}, []string{"7", "aa"}},
		{"an empty map", dict(), nil, nil, []string{"", "a"}},
		{"a map of integers", dict(integer(1), text("a"), integer(0), text("")), nil, nil, []string{"", "a", "1", "0"}},
		{"values that look like keys", dict(text("a"), text("b"), text("c"), text("d")), []string{"a", "c"}, map[string]impl.Value{"a": text("b"), "c": text("d")}, []string{"b", "d"}},
		{"a last key without a value", dict(text("a"), integer(1), text("b")), []string{"a", "b"}, map[string]impl.Value{"a": integer(1)}, []string{"b"}},
		{"one key alone", dict(text("a")), []string{"a"}, nil, []string{"a", ""}},
		{"keys of other kinds", dict(octets("a"), integer(1), impl.Value{Kind: impl.VInt, S: "a"}, integer(2), list(text("a")), integer(3), impl.Value{Kind: 10, S: "a"}, integer(4)), nil, nil, []string{"a", ""}},
		{"another kind first", dict(octets("a"), integer(1), text("a"), integer(2)), []string{"a"}, map[string]impl.Value{"a": integer(2)}, nil},
		{"no text as a key", dict(text("\xff"), integer(1)), []string{"\xff"}, map[string]impl.Value{"\xff": integer(1)}, []string{"\ufffd"}},
		{"an invalid value", dict(text("a"), decimal(10, 0)), []string{"a"}, map[string]impl.Value{"a": decimal(10, 0)}, nil},
		{"a list", list(text("a"), integer(1)), nil, nil, []string{"a", ""}},
		{"a tag", tag(1, dict(text("a"), integer(1))), nil, nil, []string{"a"}},
		{"a tag of two", tag(1, text("a"), integer(1)), nil, nil, []string{"a"}},
		{"a text", text("a"), nil, nil, []string{"a", ""}},
		{"null", null, nil, nil, []string{""}},
		{"null with Kids", impl.Value{Kids: []impl.Value{text("a"), integer(1)}}, nil, nil, []string{"a"}},
		{"kind 10", impl.Value{Kind: 10, Kids: []impl.Value{text("a"), integer(1)}}, nil, nil, []string{"a"}},
	}
	for _, row := range rows {
		if got := impl.Keys(row.v); !slices.Equal(got, row.keys) {
			t.Errorf("%s: Keys = %q", row.why, got)
		}
		for key, want := range row.has {
			if got, ok := impl.Field(row.v, key); !ok || order(got, want) != 0 {
				t.Errorf("%s: Field %q = %+v, %v", row.why, key, got, ok)
			}
		}
		for _, key := range row.not {
			if got, ok := impl.Field(row.v, key); ok || !reflect.DeepEqual(got, impl.Value{}) {
				t.Errorf("%s: Field %q = %+v, %v", row.why, key, got, ok)
			}
		}
	}
}

// roomy returns a copy of v whose lists have spare capacity, with values in it.
func roomy(v impl.Value) impl.Value {
	if v.Kids == nil {
		return v
	}
	kids := make([]impl.Value, 0, len(v.Kids)+4)
	for _, kid := range v.Kids {
		kids = append(kids, roomy(kid))
	}
	spare := kids[len(kids):cap(kids)]
	for i := range spare {
		spare[i] = text("spare")
	}
	v.Kids = kids
	return v
}

// full returns v with the spare capacity of its lists as elements.
func full(v impl.Value) impl.Value {
	kids := []impl.Value{}
	for _, kid := range v.Kids[:cap(v.Kids)] {
		kids = append(kids, full(kid))
	}
	v.Kids = kids
	return v
}

func TestValuesAreNotModified(t *testing.T) {
	for why, v := range sortableValues() {
		a := roomy(v)
		before := full(a)
		impl.ValueOk(a)
		impl.Same(a, a)
		impl.Compare(a, a)
		impl.Nodes(a)
		impl.Deep(a)
		impl.Sorted(a)
		impl.Keys(a)
		impl.Count(a, impl.VText)
		impl.Strings(a)
		for _, key := range impl.Keys(v) {
			impl.Field(a, key)
		}
		if order(full(a), before) != 0 {
			t.Errorf("%s: modified", why)
		}
	}
}

// listsOf tells the memory of the lists of v, with their spare capacity.
func listsOf(v impl.Value) [][]impl.Value {
	lists := [][]impl.Value{}
	if cap(v.Kids) > 0 {
		lists = append(lists, v.Kids[:cap(v.Kids)])
	}
	for _, kid := range v.Kids {
		lists = append(lists, listsOf(kid)...)
	}
	return lists
}

func listsMeet(a []impl.Value, b []impl.Value) bool {
	size := unsafe.Sizeof(impl.Value{})
	startA, startB := uintptr(unsafe.Pointer(&a[0])), uintptr(unsafe.Pointer(&b[0]))
	return startA < startB+uintptr(len(b))*size && startB < startA+uintptr(len(a))*size
}

// checkNew fails if got shares memory with v, or one list of got with another.
func checkNew(t *testing.T, why string, got impl.Value, v impl.Value) {
	t.Helper()
	lists := listsOf(got)
	for i, a := range lists {
		for _, b := range append(listsOf(v), lists[:i]...) {
			if listsMeet(a, b) {
				t.Fatalf("%s: shared memory in %s", why, shortened(got))
			}
		}
	}
	checkNewStrings(t, why, impl.Strings(got), v)
	nodes, _ := nodesOf(got, 0)
	for _, n := range nodes {
		checkNewStrings(t, why, []string{n.S}, v)
	}
}

func checkNewStrings(t *testing.T, why string, got []string, v impl.Value) {
	t.Helper()
	nodes, _ := nodesOf(v, 0)
	for _, s := range got {
		for _, n := range nodes {
			if sharesMemory(s, n.S) {
				t.Fatalf("%s: the string %.20q has the memory of the argument", why, s)
			}
		}
	}
}

// checkApart fails if a string of v lies in s.
func checkApart(t *testing.T, why string, v impl.Value, s string) {
	t.Helper()
	nodes, _ := nodesOf(v, 0)
	for _, n := range nodes {
		if sharesMemory(n.S, s) {
			t.Fatalf("%s: the string %.20q has the memory of the argument", why, n.S)
		}
	}
}

func TestValueResultsShareNoMemory(t *testing.T) {
	same := []impl.Value{text("same"), list(null)}
	values := map[string]impl.Value{
		"mixed":          mixed,
		"a key twice":    dict(text("aa"), list(text("bb"), null), text("aa"), list(list(null))),
		"invalid":        list(text("\xff"), list(null, octets("cc")), impl.Value{Kind: 10, S: "dd", Kids: []impl.Value{null}}),
		"one list twice": list(list(same...), list(same...), dict(text("ee"), list(same...))),
		"too many":       list(list(repeated(text("ff"), 300)...)),
	}
	for why, v := range values {
		v = roomy(v)
		values[why] = v
		checkNew(t, why+": Sorted", impl.Sorted(v), v)
		checkNewStrings(t, why+": Keys", impl.Keys(v), v)
		checkNewStrings(t, why+": Strings", impl.Strings(v), v)
		for _, key := range impl.Keys(v) {
			got, _ := impl.Field(v, key)
			checkNew(t, why+": Field", got, v)
		}
	}
}

// A value of many levels is invalid, but the functions answer for it too,
// without a stack that grows with it.
func TestValuesOfManyLevels(t *testing.T) {
	const levels = 200000
	defer debug.SetMaxStack(debug.SetMaxStack(1 << 20))
	a, b := wrapped(text("a"), levels), wrapped(text("b"), levels)
	if impl.ValueOk(a) || impl.Nodes(a) != levels+1 || impl.Deep(a) != levels {
		t.Error("levels", impl.Nodes(a), impl.Deep(a))
	}
	if impl.Compare(a, b) != -1 || impl.Compare(b, a) != 1 || !impl.Same(a, wrapped(text("a"), levels)) || impl.Same(a, b) {
		t.Error("order")
	}
	if impl.Count(a, impl.VList) != levels || impl.Count(a, impl.VText) != 1 || !slices.Equal(impl.Strings(a), []string{"a"}) {
		t.Error("count")
	}
	if got := impl.Sorted(a); !impl.Same(got, a) || &got.Kids[0] == &a.Kids[0] {
		t.Error("sorted")
	}
	if got, ok := impl.Field(dict(text("k"), a), "k"); !ok || !impl.Same(got, a) {
		t.Error("field")
	}
}

func TestValuesOfManyNodes(t *testing.T) {
	one := list(text("x"))
	for range 16 {
		one = list(one, one)
	}
	if impl.ValueOk(one) || impl.Nodes(one) != 3<<16-1 || impl.Deep(one) != 17 || impl.Count(one, impl.VText) != 1<<16 {
		t.Error("nodes", impl.Nodes(one), impl.Deep(one))
	}
	if !impl.Same(one, impl.Sorted(one)) || len(impl.Strings(one)) != 1<<16 {
		t.Error("sorted")
	}
}

// A slice can contain itself. That is no value with a last node, but every
// function returns for it; it is regarded as one without Kids.
func TestValuesThatContainThemselves(t *testing.T) {
	for _, many := range []int{1, 2, 5, 400} {
		for at := range many {
			kids := repeated(text("k"), many)
			kids[at] = impl.Value{Kind: impl.VList, Kids: []impl.Value{text("k"), dict(text("k"), impl.Value{Kind: impl.VMap, Kids: kids})}}
			for _, v := range []impl.Value{dict(kids...), list(text("k"), dict(kids...)), kids[at]} {
				checkEndless(t, v)
			}
			if at > 5 {
				break
			}
		}
	}
}

func checkEndless(t *testing.T, v impl.Value) {
	t.Helper()
	bare := v
	bare.Kids = nil
	if impl.ValueOk(v) || impl.Nodes(v) != 1 || impl.Deep(v) != 0 || impl.Count(v, v.Kind) != 1 || len(impl.Strings(v)) != 0 {
		t.Error("endless", impl.Nodes(v), impl.Deep(v))
	}
	if !impl.Same(v, v) || !impl.Same(v, bare) || impl.Compare(v, list(null)) != impl.Compare(bare, list(null)) || !impl.Same(impl.Sorted(v), bare) {
		t.Error("endless: order")
	}
	if got, ok := impl.Field(v, "k"); ok && got.Kids != nil {
		t.Error("endless: Field")
	}
	impl.Keys(v)
}
