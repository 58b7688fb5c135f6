package tests

import (
	"fmt"
	"math"
	"math/rand"
	"reflect"
	"runtime/debug"
	"slices"
	"strconv"
	"strings"
	"testing"

	"loop.example/g00421/impl"
)

// The tests of chapter 9 (promise 9). The expected results are written by hand
// or worked out here, from the model of the pointers' tests.

func opPut(path string, v impl.Value) impl.Op {
	return impl.Op{Kind: impl.OpPut, Steps: to(path), Value: v}
}

func opInsert(path string, v impl.Value) impl.Op {
	return impl.Op{Kind: impl.OpInsert, Steps: to(path), Value: v}
}

func opRemove(path string) impl.Op {
	return impl.Op{Kind: impl.OpRemove, Steps: to(path)}
}

func opTest(path string, v impl.Value) impl.Op {
	return impl.Op{Kind: impl.OpTest, Steps: to(path), Value: v}
}

// opText is an operation in short: its kind, path and value, which is null for a
// removal.
func opText(op impl.Op) string {
	kind := fmt.Sprint("kind ", op.Kind)
	if op.Kind >= 0 && op.Kind < 4 {
		kind = []string{"put", "ins", "del", "test"}[op.Kind]
	}
	value := shortened(op.Value)
	if impl.JsonFits(op.Value) {
		value = impl.PutJson(op.Value)
	}
	if op.Kind == impl.OpRemove && reflect.DeepEqual(op.Value, impl.Value{}) {
		return kind + " " + pathByHand(op.Steps)
	}
	return kind + " " + pathByHand(op.Steps) + " " + value
}

func opsText(list []impl.Op) string {
	texts := []string{}
	for _, op := range list {
		texts = append(texts, opText(op))
	}
	return strings.Join(texts, "; ")
}

func sameOps(a []impl.Op, b []impl.Op) bool {
	return slices.EqualFunc(a, b, func(x impl.Op, y impl.Op) bool {
		return x.Kind == y.Kind && slices.Equal(x.Steps, y.Steps) && order(x.Value, y.Value) == 0
	})
}

func checkOps(t *testing.T, why string, got []impl.Op, want []impl.Op) {
	t.Helper()
	if !sameOps(got, want) {
		t.Fatalf("%s: %.400s, not %.400s", why, opsText(got), opsText(want))
	}
}

// keyIndex returns the index of the pair of the VMap v with the given text key,
// counted in pairs, or -1.
func keyIndex(v impl.Value, key string) int {
	for i := 0; i < len(v.Kids); i += 2 {
		if v.Kids[i].Kind == impl.VText && v.Kids[i].S == key {
			return i / 2
		}
	}
	return -1
}

func hasTextKeysOnly(v impl.Value) bool {
	for i := 0; i < len(v.Kids); i += 2 {
		if v.Kids[i].Kind != impl.VText {
			return false
		}
	}
	return v.Kind == impl.VMap
}

// inOrder reports whether the keys of b that a has are in the order of a and
// ahead of the others.
func inOrder(a impl.Value, b impl.Value) bool {
	last, isNew := -1, false
	for i := 0; i < len(b.Kids); i += 2 {
		at := keyIndex(a, b.Kids[i].S)
		if at >= 0 && (at < last || isNew) {
			return false
		}
		last, isNew = max(at, last), isNew || at < 0
	}
	return true
}

// diffByHand works out Diff, with the given steps ahead.
func diffByHand(a impl.Value, b impl.Value, steps ...string) []impl.Op {
	ops := []impl.Op{}
	if !impl.ValueOk(a) || !impl.ValueOk(b) {
		return ops
	}
	at := func(step string) []string { return append(slices.Clone(steps), step) }
	switch {
	case order(a, b) == 0:
	case hasTextKeysOnly(a) && hasTextKeysOnly(b) && inOrder(a, b):
		for i := 0; i < len(a.Kids); i += 2 {
			if keyIndex(b, a.Kids[i].S) < 0 {
				ops = append(ops, impl.Op{Kind: impl.OpRemove, Steps: at(a.Kids[i].S)})
			}
		}
		for i := 0; i < len(b.Kids); i += 2 {
			key := b.Kids[i].S
			if j := keyIndex(a, key); j >= 0 {
				ops = append(ops, diffByHand(a.Kids[2*j+1], b.Kids[i+1], at(key)...)...)
			} else {
				ops = append(ops, impl.Op{Kind: impl.OpPut, Steps: at(key), Value: b.Kids[i+1]})
			}
		}
	case a.Kind == impl.VList && b.Kind == impl.VList:
		for i := 0; i < len(a.Kids) && i < len(b.Kids); i++ {
			ops = append(ops, diffByHand(a.Kids[i], b.Kids[i], at(strconv.Itoa(i))...)...)
		}
		for i := len(a.Kids); i > len(b.Kids); i-- {
			ops = append(ops, impl.Op{Kind: impl.OpRemove, Steps: at(strconv.Itoa(i - 1))})
		}
		for i := len(a.Kids); i < len(b.Kids); i++ {
			ops = append(ops, impl.Op{Kind: impl.OpInsert, Steps: at(strconv.Itoa(i)), Value: b.Kids[i]})
		}
	default:
		ops = append(ops, impl.Op{Kind: impl.OpPut, Steps: slices.Clone(steps), Value: b})
	}
	return ops
}

// doByHand works out Do; where it is refused, the value is v.
func doByHand(v impl.Value, op impl.Op) (impl.Value, bool) {
	if !impl.ValueOk(v) || op.Kind < 0 || op.Kind > 3 {
		return v, false
	}
	if op.Kind == impl.OpTest {
		n, ok := partAt(v, op.Steps)
		return v, ok && order(n, op.Value) == 0
	}
	result, ok := changedByHand(deeds[op.Kind].name, v, op.Steps, op.Value)
	if !ok || !impl.ValueOk(result) {
		return v, false
	}
	return result, true
}

// applyByHand works out Apply, and what Undo tells.
func applyByHand(v impl.Value, list []impl.Op) (impl.Value, []impl.Op, bool) {
	undoing := []impl.Op{}
	result := v
	for i, op := range list {
		after, ok := doByHand(result, op)
		if !ok || i == 1000 {
			return v, nil, false
		}
		undoing = append(undoByHand(result, op), undoing...)
		result = after
	}
	return result, undoing, true
}

// undoByHand tells what leads back to v from what op makes of it.
func undoByHand(v impl.Value, op impl.Op) []impl.Op {
	last := len(op.Steps) - 1
	previous, there := partAt(v, op.Steps)
	parent := null
	if last >= 0 {
		parent, _ = partAt(v, op.Steps[:last])
	}
	put := []impl.Op{{Kind: impl.OpPut, Steps: op.Steps, Value: previous}}
	insert := []impl.Op{{Kind: impl.OpInsert, Steps: op.Steps, Value: previous}}
	remove := []impl.Op{{Kind: impl.OpRemove, Steps: op.Steps}}
	switch {
	case op.Kind == impl.OpTest:
		return nil
	case op.Kind == impl.OpPut && there:
		return put
	case op.Kind == impl.OpPut:
		return remove
	case op.Kind == impl.OpInsert && (last < 0 || parent.Kind == impl.VTag || parent.Kind == impl.VMap && there):
		return put
	case op.Kind == impl.OpInsert:
		return remove
	case parent.Kind == impl.VList:
		return insert
	}
	return put
}

// sameFieldsByHand works out SameFields.
func sameFieldsByHand(a impl.Value, b impl.Value) bool {
	if impl.ValueOk(a) {
		a = sortedByHand(a)
	}
	if impl.ValueOk(b) {
		b = sortedByHand(b)
	}
	return order(a, b) == 0
}

// mergedByHand works out MergePatch, except that the result need not be valid.
func mergedByHand(v impl.Value, p impl.Value) impl.Value {
	if p.Kind != impl.VMap {
		return p
	}
	result := dict()
	if v.Kind == impl.VMap {
		result.Kids = slices.Clone(v.Kids)
	}
	for i := 0; i < len(p.Kids); i += 2 {
		key, x := p.Kids[i], p.Kids[i+1]
		at := 2 * keyIndex(result, key.S)
		switch {
		case key.Kind != impl.VText:
		case x.Kind == impl.VNull && at >= 0:
			result.Kids = slices.Delete(result.Kids, at, at+2)
		case x.Kind == impl.VNull:
		case at >= 0:
			result.Kids[at+1] = mergedByHand(result.Kids[at+1], x)
		default:
			result.Kids = append(result.Kids, key, mergedByHand(null, x))
		}
	}
	return result
}

func checkDiff(t *testing.T, a impl.Value, b impl.Value, want []impl.Op) {
	t.Helper()
	checkOps(t, fmt.Sprintf("Diff of %s and %s", shortened(a), shortened(b)), impl.Diff(a, b), want)
}

// checkDiffByHand fails if Diff does not tell what diffByHand does, or if its
// operations do not lead from a to b, and those of Undo back.
func checkDiffByHand(t *testing.T, a impl.Value, b impl.Value) {
	t.Helper()
	checkDiff(t, a, b, diffByHand(a, b))
	list := impl.Diff(a, b)
	if impl.Nodes(a)+impl.Nodes(b) <= 300 && impl.ValueOk(a) && impl.ValueOk(b) {
		checkApply(t, a, list, b, true)
		checkUndo(t, a, list)
	}
}

func checkDo(t *testing.T, v impl.Value, op impl.Op, want impl.Value, wantOk bool) {
	t.Helper()
	got, ok := impl.Do(v, op)
	if ok != wantOk || order(got, want) != 0 {
		t.Fatalf("Do of %s in %s = %s, %v, not %s, %v", opText(op), shortened(v), shortened(got), ok, shortened(want), wantOk)
	}
}

func checkApply(t *testing.T, v impl.Value, list []impl.Op, want impl.Value, wantOk bool) {
	t.Helper()
	got, ok := impl.Apply(v, list)
	if ok != wantOk || order(got, want) != 0 {
		t.Fatalf("Apply of %.400s in %s = %s, %v, not %s, %v", opsText(list), shortened(v), shortened(got), ok, shortened(want), wantOk)
	}
}

// checkUndo fails if Undo does not tell what applyByHand does, or if its
// operations do not lead back to v.
func checkUndo(t *testing.T, v impl.Value, list []impl.Op) {
	t.Helper()
	result, want, wantOk := applyByHand(v, list)
	checkApply(t, v, list, result, wantOk)
	why := fmt.Sprintf("Undo of %.400s in %s", opsText(list), shortened(v))
	got, ok := impl.Undo(v, list)
	if ok != wantOk {
		t.Fatalf("%s: %v", why, ok)
	}
	checkOps(t, why, got, want)
	if !ok {
		return
	}
	after, _ := impl.Apply(v, list)
	back, ok := impl.Apply(after, got)
	if !ok || !sameFieldsByHand(back, v) || !impl.SameFields(back, v) {
		t.Fatalf("%s: back to %s, %v", why, shortened(back), ok)
	}
}

func checkMerge(t *testing.T, v impl.Value, p impl.Value, want impl.Value) {
	t.Helper()
	got := impl.MergePatch(v, p)
	if order(got, want) != 0 {
		t.Fatalf("MergePatch of %s and %s = %s, not %s", shortened(v), shortened(p), shortened(got), shortened(want))
	}
	if again := impl.MergePatch(got, p); order(again, got) != 0 {
		t.Fatalf("MergePatch of %s and %s twice = %s", shortened(v), shortened(p), shortened(again))
	}
}

func TestPatchConstants(t *testing.T) {
	if impl.OpPut != 0 || impl.OpInsert != 1 || impl.OpRemove != 2 || impl.OpTest != 3 {
		t.Error("kinds", impl.OpPut, impl.OpInsert, impl.OpRemove, impl.OpTest)
	}
}

func TestDiff(t *testing.T) {
	for _, row := range []struct{ a, b, want string }{
		{`1`, `1`, ``}, {`null`, `null`, ``}, {`[]`, `[]`, ``}, {`{}`, `{}`, ``}, {`{"a":[1,{"b":2}]}`, `{"a":[1,{"b":2}]}`, ``},
		{`1`, `2`, `put  2`}, {`1`, `1.5`, `put  1.5`}, {`1`, `"1"`, `put  "1"`}, {`"a"`, `"b"`, `put  "b"`}, {`null`, `false`, `put  false`}, {`true`, `null`, `put  null`}, {`1.5`, `1.25`, `put  1.25`},
		{`[]`, `{}`, `put  {}`}, {`{}`, `[]`, `put  []`}, {`[1]`, `1`, `put  1`}, {`1`, `[1]`, `put  [1]`}, {`{"0":1}`, `[1]`, `put  [1]`}, {`[1]`, `{"0":1}`, `put  {"0":1}`}, {`null`, `{}`, `put  {}`}, {`{"a":1}`, `null`, `put  null`},
		// Maps with keys in the same order: removed, common and new ones.
		{`{"a":1}`, `{}`, `del /a`}, {`{}`, `{"a":1}`, `put /a 1`}, {`{"a":1}`, `{"b":1}`, `del /a; put /b 1`}, {`{"a":1}`, `{"a":2}`, `put /a 2`}, {`{"a":null}`, `{}`, `del /a`}, {`{}`, `{"a":null}`, `put /a null`}, {`{"a":1}`, `{"a":null}`, `put /a null`},
		{`{"a":1,"b":2,"c":3}`, `{"c":3}`, `del /a; del /b`}, {`{"c":1,"a":2,"b":3}`, `{"a":2}`, `del /c; del /b`}, {`{"b":1,"a":2}`, `{}`, `del /b; del /a`}, {`{}`, `{"b":1,"a":2}`, `put /b 1; put /a 2`}, {`{"c":3}`, `{"c":3,"b":2,"a":1}`, `put /b 2; put /a 1`},
		{`{"b":1,"a":2,"c":3}`, `{"b":4,"a":5,"c":6}`, `put /b 4; put /a 5; put /c 6`}, {`{"b":1,"x":0,"a":2,"y":0,"c":3}`, `{"b":4,"a":2,"c":6,"d":7}`, `del /x; del /y; put /b 4; put /c 6; put /d 7`}, {`{"x":1,"a":2}`, `{"a":3,"y":4}`, `del /x; put /a 3; put /y 4`},
		{`{"a":1,"b":[1,2,3],"c":4}`, `{"b":[1,5],"c":4,"d":6}`, `del /a; put /b/1 5; del /b/2; put /d 6`}, {`{"":1}`, `{"":2}`, `put / 2`}, {`{"":1}`, `{}`, `del /`}, {`{"a/b":1,"~":2}`, `{"~":3,"~1":4}`, `del /a~1b; put /~0 3; put /~01 4`},
		// Maps with keys in another order, or with new keys that are not behind.
		{`{"a":1,"b":2}`, `{"b":2,"a":1}`, `put  {"b":2,"a":1}`}, {`{"a":1,"b":2,"c":3}`, `{"a":1,"c":3,"b":2}`, `put  {"a":1,"c":3,"b":2}`}, {`{"a":1,"b":2,"c":3}`, `{"c":3,"a":1,"b":2}`, `put  {"c":3,"a":1,"b":2}`}, {`{"a":1,"b":2,"c":3}`, `{"b":2,"a":1}`, `put  {"b":2,"a":1}`}, {`{"a":1,"x":0,"b":2}`, `{"b":2,"a":1,"y":3}`, `put  {"b":2,"a":1,"y":3}`},
		{`{"a":1}`, `{"b":2,"a":1}`, `put  {"b":2,"a":1}`}, {`{"a":1,"b":2}`, `{"a":1,"c":3,"b":2}`, `put  {"a":1,"c":3,"b":2}`}, {`{"a":1,"b":2}`, `{"c":3,"a":1,"b":2}`, `put  {"c":3,"a":1,"b":2}`}, {`{"a":1,"b":2}`, `{"a":1,"b":2,"c":3}`, `put /c 3`}, {`{"a":1,"b":2}`, `{"c":3,"b":2}`, `put  {"c":3,"b":2}`}, {`{"a":1,"b":2}`, `{"b":2,"c":3}`, `del /a; put /c 3`}, {`{"a":1,"b":2}`, `{"c":3,"d":4}`, `del /a; del /b; put /c 3; put /d 4`}, {`{"a":1,"b":2}`, `{"d":4,"c":3}`, `del /a; del /b; put /d 4; put /c 3`},
		{`{"x":{"a":1,"b":2},"y":3}`, `{"x":{"b":2,"a":1},"y":4}`, `put /x {"b":2,"a":1}; put /y 4`}, {`[{"a":1,"b":2},5]`, `[{"b":2,"a":1},5]`, `put /0 {"b":2,"a":1}`}, {`{"x":{"a":1},"y":3}`, `{"y":3,"x":{"a":2}}`, `put  {"y":3,"x":{"a":2}}`}, {`{"x":{"a":1},"y":3}`, `{"x":{"b":2,"a":1},"z":3}`, `del /y; put /x {"b":2,"a":1}; put /z 3`},
		// Lists.
		{`[]`, `[1]`, `ins /0 1`}, {`[1]`, `[]`, `del /0`}, {`[]`, `[1,2,3]`, `ins /0 1; ins /1 2; ins /2 3`}, {`[1,2,3]`, `[]`, `del /2; del /1; del /0`}, {`[1]`, `[1,2,3]`, `ins /1 2; ins /2 3`}, {`[1,2,3]`, `[1]`, `del /2; del /1`}, {`[1,2,3]`, `[2,3]`, `put /0 2; put /1 3; del /2`}, {`[2,3]`, `[1,2,3]`, `put /0 1; put /1 2; ins /2 3`}, {`[1,2,3]`, `[1,5,3]`, `put /1 5`}, {`[1,2]`, `[2,1]`, `put /0 2; put /1 1`}, {`[[]]`, `[]`, `del /0`}, {`[]`, `[[]]`, `ins /0 []`}, {`[null]`, `[]`, `del /0`}, {`[]`, `[null,null]`, `ins /0 null; ins /1 null`},
		{`[0,0,0,0,0,0,0,0,0,0,0]`, `[0,0,0,0,0,0,0,0,0]`, `del /10; del /9`}, {`[0,0,0,0,0,0,0,0,0]`, `[0,0,0,0,0,0,0,0,0,1,2]`, `ins /9 1; ins /10 2`},
		// Maps and lists within each other.
		{`[[1],[2,3],[]]`, `[[],[2,4],[5]]`, `del /0/0; put /1/1 4; ins /2/0 5`}, {`[[1,[2]]]`, `[[1,[2,3],4],5]`, `ins /0/1/1 3; ins /0/2 4; ins /1 5`}, {`{"a":{"b":{"c":1}}}`, `{"a":{"b":{"c":2}}}`, `put /a/b/c 2`}, {`{"a":{"b":{"c":1}}}`, `{"a":{"b":{}}}`, `del /a/b/c`}, {`{"a":{"b":{}}}`, `{"a":{"b":{"c":1}}}`, `put /a/b/c 1`}, {`{"a":{"b":1},"c":[{"d":1}]}`, `{"a":{"e":2},"c":[{"d":1,"f":3}]}`, `del /a/b; put /a/e 2; put /c/0/f 3`}, {`{"a":[1,2],"b":{"c":3}}`, `{"a":{"0":1},"b":[3]}`, `put /a {"0":1}; put /b [3]`}, {`{"a":[{"b":1,"c":2},7]}`, `{"a":[{"c":2}]}`, `del /a/0/b; del /a/1`},
	} {
		a, b := ofJson(row.a), ofJson(row.b)
		if got := opsText(impl.Diff(a, b)); got != row.want {
			t.Errorf("Diff of %s and %s: %s, not %s", row.a, row.b, got, row.want)
		}
		checkDiffByHand(t, a, b)
	}
}

func TestDiffOfTagsAndIntegerKeys(t *testing.T) {
	for _, row := range []struct {
		a, b impl.Value
		want []impl.Op
	}{
		{tag(5, null), tag(5, null), nil}, {tag(5, null), tag(6, null), []impl.Op{opPut("", tag(6, null))}}, {tag(5, list(yes)), tag(5, list(no)), []impl.Op{opPut("", tag(5, list(no)))}}, {tag(5, yes), yes, []impl.Op{opPut("", yes)}}, {yes, tag(5, yes), []impl.Op{opPut("", tag(5, yes))}},
		{list(tag(5, list())), list(tag(5, list(null))), []impl.Op{opPut("/0", tag(5, list(null)))}}, {dict(text("a"), tag(5, dict()), text("b"), no), dict(text("a"), tag(5, dict(text("tag"), null)), text("b"), no), []impl.Op{opPut("/a", tag(5, dict(text("tag"), null)))}},
		{text("a"), octets("a"), []impl.Op{opPut("", octets("a"))}}, {octets("a"), octets("\xff"), []impl.Op{opPut("", octets("\xff"))}}, {integer(1), decimal(1, -1), []impl.Op{opPut("", decimal(1, -1))}},
		{dict(integer(1), yes), dict(integer(1), yes), nil}, {dict(integer(1), yes), dict(integer(1), no), []impl.Op{opPut("", dict(integer(1), no))}}, {dict(integer(1), yes), dict(), []impl.Op{opPut("", dict())}}, {dict(), dict(integer(1), yes), []impl.Op{opPut("", dict(integer(1), yes))}},
		{dict(text("a"), yes, integer(1), yes), dict(text("a"), no), []impl.Op{opPut("", dict(text("a"), no))}}, {dict(text("a"), yes), dict(text("a"), no, integer(1), yes), []impl.Op{opPut("", dict(text("a"), no, integer(1), yes))}}, {dict(integer(1), yes, text("a"), yes), dict(integer(1), yes, text("a"), no), []impl.Op{opPut("", dict(integer(1), yes, text("a"), no))}},
		{dict(text("1"), yes), dict(integer(1), yes), []impl.Op{opPut("", dict(integer(1), yes))}}, {dict(integer(1), yes), dict(text("1"), yes), []impl.Op{opPut("", dict(text("1"), yes))}},
		{list(dict(text("a"), dict(integer(1), yes), text("b"), yes)), list(dict(text("a"), dict(integer(1), no), text("b"), no)), []impl.Op{opPut("/0/a", dict(integer(1), no)), opPut("/0/b", no)}},
	} {
		checkDiff(t, row.a, row.b, row.want)
		checkDiffByHand(t, row.a, row.b)
	}
}

// keyOrders are the maps of the given keys, some of them or all, in any order.
func keyOrders(keys []string, number int) []impl.Value {
	maps := []impl.Value{}
	var extend func(v impl.Value)
	extend = func(v impl.Value) {
		maps = append(maps, v)
		for i, key := range keys {
			if keyIndex(v, key) < 0 {
				extend(dict(append(slices.Clone(v.Kids), text(key), integer(number*i%4))...))
			}
		}
	}
	extend(dict())
	return maps
}

func TestDiffOfKeysInEveryOrder(t *testing.T) {
	keys := []string{"b", "", "a", "c"}
	olds, news := keyOrders(keys, 1), keyOrders(keys, 2)
	wholes, single := 0, 0
	for i, a := range olds {
		for j, b := range append(slices.Clone(news), olds...) {
			if i%5 == 0 || j%5 == 0 {
				checkDiffByHand(t, a, b)
				checkDiffByHand(t, dict(text("k"), list(a)), dict(text("k"), list(b)))
			}
			if list := impl.Diff(a, b); len(list) == 1 && len(list[0].Steps) == 0 {
				wholes++
			} else {
				single++
			}
			if impl.SameFields(a, b) != sameFieldsByHand(a, b) {
				t.Fatalf("SameFields of %s and %s", shortened(a), shortened(b))
			}
		}
	}
	if wholes < 1000 || single < 1000 {
		t.Error("maps in another order and in the same:", wholes, single)
	}
}

func TestDiffOfInvalidValues(t *testing.T) {
	for why, bad := range invalidValues() {
		for _, v := range []impl.Value{null, list(), list(null, yes), dict(), dict(text("a"), integer(1)), bad, mixed} {
			checkOps(t, why, impl.Diff(bad, v), nil)
			checkOps(t, why, impl.Diff(v, bad), nil)
		}
		checkOps(t, why, impl.Diff(list(bad, yes), list(bad, no)), nil)
		checkOps(t, why, impl.Diff(list(bad, yes), list(null, no)), nil)
		checkOps(t, why, impl.Diff(dict(text("a"), yes), dict(text("a"), bad)), nil)
	}
}

func TestDiffAtTheLimits(t *testing.T) {
	deep := func(v impl.Value, levels int) impl.Value { return deepMap(v, levels) }
	for _, row := range [][2]impl.Value{
		{wrapped(null, 12), wrapped(yes, 12)}, {wrapped(list(), 11), wrapped(list(null), 11)}, {wrapped(list(null), 11), wrapped(list(), 11)}, {wrapped(list(), 12), wrapped(dict(), 12)},
		{deep(null, 12), deep(yes, 12)}, {deep(dict(), 11), deep(dict(text("b"), null), 11)}, {deep(dict(text("b"), null), 11), deep(dict(), 11)},
		{dict(text(strings.Repeat("/", 2000)), null), dict(text(strings.Repeat("/", 2000)), yes)}, {dict(text(strings.Repeat("~", 2000)), null), dict()}, {dict(), dict(text(strings.Repeat("\u00e9", 1000)), null)}, {text(strings.Repeat("a", 2000)), text(strings.Repeat("b", 2000))},
		{list(repeated(null, 149)...), list(repeated(yes, 149)...)}, {list(repeated(null, 149)...), list(repeated(list(), 149)...)}, {list(repeated(null, 298)...), list()}, {list(), list(repeated(null, 298)...)}, {textNumbered(74), textNumbered(75)}, {textNumbered(149), dict()}, {dict(), textNumbered(149)}, {textNumbered(149), null}, {list(repeated(null, 298)...), yes},
		{dict(text("a"), list(repeated(null, 147)...)), dict(text("b"), list(repeated(yes, 147)...))}, {list(list(repeated(null, 100)...), list(repeated(null, 47)...)), list(list(repeated(yes, 47)...), list(repeated(no, 100)...))},
	} {
		if impl.Nodes(row[0])+impl.Nodes(row[1]) > 300 {
			t.Fatalf("%d nodes", impl.Nodes(row[0])+impl.Nodes(row[1]))
		}
		checkDiffByHand(t, row[0], row[1])
		checkDiffByHand(t, row[1], row[0])
	}
	// Both together have more nodes, and there may be no way between them then.
	a, b := list(list(), list(repeated(null, 290)...)), list(list(repeated(null, 290)...), list())
	checkDiffByHand(t, a, b)
	checkApply(t, a, impl.Diff(a, b), a, false)
	checkDiffByHand(t, list(repeated(null, 299)...), list(repeated(yes, 299)...))
	checkDiffByHand(t, textNumbered(149), dict(append(slices.Clone(textNumbered(149).Kids[2:]), textNumbered(149).Kids[:2]...)...))
}

// shuffled returns v with the pairs of its maps in another order.
func shuffled(random *rand.Rand, v impl.Value) impl.Value {
	kids := []impl.Value{}
	for _, kid := range v.Kids {
		kids = append(kids, shuffled(random, kid))
	}
	if v.Kind == impl.VMap {
		random.Shuffle(len(kids)/2, func(i int, j int) {
			kids[2*i], kids[2*i+1], kids[2*j], kids[2*j+1] = kids[2*j], kids[2*j+1], kids[2*i], kids[2*i+1]
		})
	}
	v.Kids = kids
	return v
}

// randomOp returns an operation near some part of v; it may not be executable.
func randomOp(random *rand.Rand, v impl.Value) impl.Op {
	spots := spotsOf(v)
	s := spots[random.Intn(len(spots))]
	op := impl.Op{Kind: random.Intn(4), Steps: slices.Clone(s.steps), Value: randomValue(random, 2, false)}
	if random.Intn(3) == 0 {
		steps := []string{"0", "1", "k0", "", "tag", strconv.Itoa(len(s.node.Kids))}
		op.Steps = append(op.Steps, steps[random.Intn(len(steps))])
	}
	if op.Kind == impl.OpTest && random.Intn(4) > 0 {
		op.Value, _ = partAt(v, op.Steps)
	}
	return op
}

// randomOps returns operations that can be executed in v, and the result.
func randomOps(random *rand.Rand, v impl.Value, most int) ([]impl.Op, impl.Value) {
	list := []impl.Op{}
	for range most {
		op := randomOp(random, v)
		if after, ok := doByHand(v, op); ok {
			list = append(list, op)
			v = after
		}
	}
	return list, v
}

func TestApplyingADifferenceYieldsTheOtherValue(t *testing.T) {
	random := rand.New(rand.NewSource(91))
	for range 3000 {
		a := randomValue(random, 4, random.Intn(2) == 0)
		_, b := randomOps(random, a, random.Intn(8))
		checkDiffByHand(t, a, b)
		checkDiffByHand(t, b, a)
		checkDiffByHand(t, a, shuffled(random, b))
		checkDiffByHand(t, a, randomValue(random, 3, true))
	}
	values := pointedValues()
	for _, a := range values {
		checkDiffByHand(t, a, null)
		checkDiffByHand(t, a, list(a))
		checkDiffByHand(t, list(a, a), list(a))
		checkDiffByHand(t, parts, a)
	}
}

func TestDo(t *testing.T) {
	v := ofJson(`{"a":[1,2],"b":{"c":3}}`)
	nine := integer(9)
	for _, row := range []struct {
		op   impl.Op
		want string
	}{
		{opPut("/a/0", nine), `{"a":[9,2],"b":{"c":3}}`}, {opPut("/a/2", nine), `{"a":[1,2,9],"b":{"c":3}}`}, {opPut("/d", nine), `{"a":[1,2],"b":{"c":3},"d":9}`}, {opPut("/b/c", nine), `{"a":[1,2],"b":{"c":9}}`}, {opPut("", nine), `9`}, {opPut("/a", null), `{"a":null,"b":{"c":3}}`},
		{opInsert("/a/0", nine), `{"a":[9,1,2],"b":{"c":3}}`}, {opInsert("/a/2", nine), `{"a":[1,2,9],"b":{"c":3}}`}, {opInsert("/d", nine), `{"a":[1,2],"b":{"c":3},"d":9}`}, {opInsert("/b/c", nine), `{"a":[1,2],"b":{"c":9}}`}, {opInsert("", nine), `9`},
		{opRemove("/a/0"), `{"a":[2],"b":{"c":3}}`}, {opRemove("/a"), `{"b":{"c":3}}`}, {opRemove("/b/c"), `{"a":[1,2],"b":{}}`}, {impl.Op{Kind: impl.OpRemove, Steps: to("/a"), Value: text("\xff")}, `{"b":{"c":3}}`},
		{opTest("/a/0", integer(1)), `{"a":[1,2],"b":{"c":3}}`}, {opTest("/a", ofJson(`[1,2]`)), `{"a":[1,2],"b":{"c":3}}`}, {opTest("", v), `{"a":[1,2],"b":{"c":3}}`},
		{opPut("/a/3", nine), ``}, {opPut("/c/d", nine), ``}, {opPut("/a/-1", nine), ``}, {opPut("/a/0/0", nine), ``}, {opPut("/a/0", text("\xff")), ``}, {opPut("", decimal(10, 1)), ``}, {opPut("/a/0", wrapped(null, 11)), ``},
		{opInsert("/a/3", nine), ``}, {opInsert("/c/d", nine), ``}, {opInsert("/a/0", tag(-1, null)), ``}, {opInsert("/b/c/", nine), ``},
		{opRemove(""), ``}, {opRemove("/c"), ``}, {opRemove("/a/2"), ``}, {opRemove("/a/0/0"), ``}, {opRemove("/b/"), ``},
		{opTest("/a/0", integer(2)), ``}, {opTest("/a/0", decimal(1, -1)), ``}, {opTest("/a/0", text("1")), ``}, {opTest("/a", ofJson(`[2,1]`)), ``}, {opTest("/a", list()), ``}, {opTest("/a/2", null), ``}, {opTest("/c", null), ``}, {opTest("/c", impl.Value{}), ``}, {opTest("/a/0/0", integer(1)), ``}, {opTest("", ofJson(`{"b":{"c":3},"a":[1,2]}`)), ``}, {opTest("", null), ``}, {opTest("/a/0", impl.Value{Kind: impl.VInt, N: 1, E: 1}), ``},
	} {
		want, ok := v, row.want != ""
		if ok {
			want = ofJson(row.want)
		}
		checkDo(t, v, row.op, want, ok)
	}
	five := tag(5, list(null))
	checkDo(t, five, opPut("/tag", yes), tag(5, yes), true)
	checkDo(t, five, opInsert("/tag", yes), tag(5, yes), true)
	checkDo(t, five, opInsert("/tag/0", yes), tag(5, list(yes, null)), true)
	checkDo(t, five, opRemove("/tag"), five, false)
	checkDo(t, five, opTest("/tag/0", null), five, true)
	checkDo(t, list(null), opTest("/0", null), list(null), true)
	checkDo(t, list(null), opTest("/1", null), list(null), false)
}

func TestDoOfUnknownKinds(t *testing.T) {
	for _, kind := range []int{-1, 4, 5, -2, 7, 256, 1 << 32, math.MinInt, math.MaxInt, -1 << 32} {
		for _, v := range []impl.Value{null, mixed, ofJson(`[1]`), text("\xff")} {
			for _, op := range []impl.Op{{Kind: kind}, {Kind: kind, Steps: []string{"0"}, Value: integer(1)}, {Kind: kind, Value: v}, {Kind: kind, Steps: []string{"b"}}} {
				checkDo(t, v, op, v, false)
				checkApply(t, v, []impl.Op{op}, v, false)
				checkUndo(t, v, []impl.Op{op})
			}
		}
	}
}

func TestDoOfInvalidValues(t *testing.T) {
	for _, bad := range invalidValues() {
		for kind := -1; kind < 5; kind++ {
			for _, steps := range [][]string{nil, {"0"}, {"1"}, {"a"}, {"k"}, {"new"}, {"tag"}, {"0", "0"}} {
				there, _ := partAt(bad, steps)
				for _, x := range []impl.Value{null, bad, there} {
					op := impl.Op{Kind: kind, Steps: steps, Value: x}
					checkDo(t, bad, op, bad, false)
					checkApply(t, bad, []impl.Op{op}, bad, false)
				}
			}
		}
		for kind := range 4 {
			for _, steps := range [][]string{nil, {"a"}, {"a", "0"}, {"new"}, {"a", "3", "tag"}} {
				op := impl.Op{Kind: kind, Steps: steps, Value: bad}
				want, ok := doByHand(parts, op)
				checkDo(t, parts, op, want, ok)
				if ok != (kind == impl.OpRemove && len(steps) > 0 && len(steps) < 3 && steps[0] == "a") {
					t.Errorf("kind %d with an invalid value", kind)
				}
			}
		}
	}
}

func TestDoEverywhere(t *testing.T) {
	given := []impl.Value{null, list(null, text("x")), text("\xff"), wrapped(null, 8)}
	for _, v := range pointedValues() {
		for i, steps := range pointers(someSpots(v)) {
			there, _ := partAt(v, steps)
			for kind := -1; kind < 5; kind++ {
				op := impl.Op{Kind: kind, Steps: steps, Value: given[i%len(given)]}
				if kind == impl.OpTest && i%3 > 0 {
					op.Value = there
				}
				want, ok := doByHand(v, op)
				checkDo(t, v, op, want, ok)
			}
		}
	}
}

func TestApply(t *testing.T) {
	v := ofJson(`{"a":1,"b":[1]}`)
	nine := integer(9)
	for _, row := range []struct {
		list []impl.Op
		want string
	}{
		{nil, `{"a":1,"b":[1]}`}, {[]impl.Op{}, `{"a":1,"b":[1]}`}, {[]impl.Op{opTest("/a", integer(1))}, `{"a":1,"b":[1]}`},
		{[]impl.Op{opRemove("/a"), opPut("/a", nine)}, `{"b":[1],"a":9}`}, {[]impl.Op{opInsert("/b/0", nine), opInsert("/b/0", null), opTest("/b/2", integer(1)), opRemove("/b/1")}, `{"a":1,"b":[null,1]}`}, {[]impl.Op{opPut("", list()), opPut("/0", nine), opPut("/1", nine), opRemove("/0")}, `[9]`}, {[]impl.Op{opPut("/c", dict()), opPut("/c/d", list()), opPut("/c/d/0", nine)}, `{"a":1,"b":[1],"c":{"d":[9]}}`},
		// One that fails at the beginning, in the middle and at the end.
		{[]impl.Op{opRemove("/c"), opPut("/a", nine), opPut("/b", nine)}, ``}, {[]impl.Op{opPut("/a", nine), opRemove("/c"), opPut("/b", nine)}, ``}, {[]impl.Op{opPut("/a", nine), opPut("/b", nine), opRemove("/c")}, ``}, {[]impl.Op{opRemove("/a"), opRemove("/a")}, ``}, {[]impl.Op{opRemove("/a"), opTest("/a", integer(1))}, ``}, {[]impl.Op{opTest("/a", nine)}, ``}, {[]impl.Op{opTest("/a", nine), opPut("/a", nine)}, ``}, {[]impl.Op{opPut("/a", nine), opTest("/a", integer(1)), opPut("/a", integer(1))}, ``}, {[]impl.Op{opPut("/a", nine), {Kind: 4}}, ``}, {[]impl.Op{{Kind: -1}, opPut("/a", nine)}, ``}, {[]impl.Op{opPut("", nine), opPut("/a", nine)}, ``}, {[]impl.Op{opPut("/a", text("\xff"))}, ``},
	} {
		want, ok := v, row.want != ""
		if ok {
			want = ofJson(row.want)
		}
		checkApply(t, v, row.list, want, ok)
		checkUndo(t, v, row.list)
	}
}

func TestApplyOfManyOperations(t *testing.T) {
	counts := func(many int) []impl.Op {
		list := []impl.Op{}
		for i := range many {
			list = append(list, opTest("/0", integer(i)), opPut("/0", integer(i+1)))
		}
		return list
	}
	zero := list(integer(0))
	checkApply(t, zero, counts(500), list(integer(500)), true)
	checkUndo(t, zero, counts(500))
	checkApply(t, zero, counts(500)[:999], list(integer(499)), true)
	checkApply(t, zero, append(counts(500), opPut("/0", yes)), zero, false)
	checkUndo(t, zero, append(counts(500), opPut("/0", yes)))
	checkApply(t, zero, counts(5000), zero, false)
	for _, at := range []int{0, 1, 499, 500, 998, 999} {
		many := counts(500)
		many[at] = opRemove("/1")
		checkApply(t, zero, many, zero, false)
		checkUndo(t, zero, many)
	}
	for _, op := range []impl.Op{opTest("/0", integer(0)), opPut("/0", integer(0)), opPut("", null)} {
		for many, ok := range map[int]bool{999: true, 1000: true, 1001: false, 1002: false, 2000: false} {
			if many > 999 && op.Steps == nil {
				continue
			}
			same := slices.Repeat([]impl.Op{op}, many)
			want, _ := doByHand(zero, op)
			if !ok {
				want = zero
			}
			checkApply(t, zero, same, want, ok)
			if undoing, undone := impl.Undo(zero, same); undone != ok || !ok && len(undoing) > 0 {
				t.Errorf("Undo of %d operations: %v, %d", many, undone, len(undoing))
			}
		}
	}
	if got, ok := impl.Apply(zero, make([]impl.Op, 1000)); !ok || order(got, null) != 0 {
		t.Error("Apply of 1000 zero values", shortened(got), ok)
	}
	if got, ok := impl.Apply(zero, make([]impl.Op, 1001)); ok || order(got, zero) != 0 {
		t.Error("Apply of 1001 zero values", shortened(got), ok)
	}
}

// Nothing fails where nothing is executed, even if v is invalid.
func TestApplyToInvalidValues(t *testing.T) {
	for why, bad := range invalidValues() {
		checkApply(t, bad, nil, bad, true)
		if undoing, ok := impl.Undo(bad, nil); !ok || len(undoing) > 0 {
			t.Errorf("%s: Undo of no operations: %v", why, ok)
		}
		for _, op := range []impl.Op{opPut("", null), opInsert("", null), opRemove("/a"), opRemove("/0"), opTest("", bad), opPut("/0", null), {Kind: 9}} {
			for many := 1; many < 3; many++ {
				same := slices.Repeat([]impl.Op{op}, many)
				checkApply(t, bad, same, bad, false)
				if undoing, ok := impl.Undo(bad, same); ok || len(undoing) > 0 {
					t.Errorf("%s: Undo = %s, %v", why, opsText(undoing), ok)
				}
			}
		}
		checkApply(t, bad, make([]impl.Op, 1001), bad, false)
		checkApply(t, mixed, []impl.Op{opPut("/b/0", null), opPut("/b/1", bad)}, mixed, false)
	}
}

func TestUndo(t *testing.T) {
	v := ofJson(`{"a":1,"b":[1,2],"c":{"d":3}}`)
	five := tag(5, list(null))
	nine := integer(9)
	ops := func(list ...impl.Op) []impl.Op { return list }
	for _, row := range []struct {
		v    impl.Value
		list []impl.Op
		want []impl.Op
	}{
		{v, nil, nil}, {v, ops(opTest("/a", integer(1))), nil},
		// An OpPut at a position that is there and at a new one.
		{v, ops(opPut("/b/0", nine)), ops(opPut("/b/0", integer(1)))}, {v, ops(opPut("/b/2", nine)), ops(opRemove("/b/2"))}, {v, ops(opPut("/a", nine)), ops(opPut("/a", integer(1)))}, {v, ops(opPut("/e", nine)), ops(opRemove("/e"))}, {v, ops(opPut("/c/d", nine)), ops(opPut("/c/d", integer(3)))}, {v, ops(opPut("/c", nine)), ops(opPut("/c", ofJson(`{"d":3}`)))}, {v, ops(opPut("", nine)), ops(opPut("", v))}, {five, ops(opPut("/tag", nine)), ops(opPut("/tag", list(null)))}, {five, ops(opPut("/tag/1", nine)), ops(opRemove("/tag/1"))}, {list(null), ops(opPut("/0", nine)), ops(opPut("/0", null))}, {dict(text("a"), null), ops(opPut("/a", nine)), ops(opPut("/a", null))}, {null, ops(opPut("", nine)), ops(opPut("", null))}, {v, ops(opPut("/a", integer(1))), ops(opPut("/a", integer(1)))},
		// An OpInsert.
		{v, ops(opInsert("/b/0", nine)), ops(opRemove("/b/0"))}, {v, ops(opInsert("/b/1", nine)), ops(opRemove("/b/1"))}, {v, ops(opInsert("/b/2", nine)), ops(opRemove("/b/2"))}, {v, ops(opInsert("/a", nine)), ops(opPut("/a", integer(1)))}, {v, ops(opInsert("/e", nine)), ops(opRemove("/e"))}, {v, ops(opInsert("", nine)), ops(opPut("", v))}, {list(), ops(opInsert("", nine)), ops(opPut("", list()))}, {list(), ops(opInsert("/0", nine)), ops(opRemove("/0"))}, {five, ops(opInsert("/tag", nine)), ops(opPut("/tag", list(null)))}, {five, ops(opInsert("/tag/0", nine)), ops(opRemove("/tag/0"))}, {dict(text("0"), null), ops(opInsert("/0", nine)), ops(opPut("/0", null))}, {dict(integer(0), null), ops(opInsert("/0", nine)), ops(opRemove("/0"))},
		// An OpRemove, whose own value says nothing.
		{v, ops(opRemove("/b/0")), ops(opInsert("/b/0", integer(1)))}, {v, ops(opRemove("/b/1")), ops(opInsert("/b/1", integer(2)))}, {v, ops(opRemove("/a")), ops(opPut("/a", integer(1)))}, {v, ops(opRemove("/c")), ops(opPut("/c", ofJson(`{"d":3}`)))}, {v, ops(opRemove("/c/d")), ops(opPut("/c/d", integer(3)))}, {five, ops(opRemove("/tag/0")), ops(opInsert("/tag/0", null))}, {v, ops(impl.Op{Kind: impl.OpRemove, Steps: to("/a"), Value: yes}), ops(opPut("/a", integer(1)))},
		// Several of them that change the same place.
		{v, ops(opPut("/a", nine), opPut("/a", yes), opRemove("/a"), opPut("/a", no)), ops(opRemove("/a"), opPut("/a", yes), opPut("/a", nine), opPut("/a", integer(1)))}, {v, ops(opInsert("/b/0", nine), opInsert("/b/0", yes), opRemove("/b/2")), ops(opInsert("/b/2", integer(1)), opRemove("/b/0"), opRemove("/b/0"))}, {v, ops(opRemove("/b/0"), opRemove("/b/0")), ops(opInsert("/b/0", integer(2)), opInsert("/b/0", integer(1)))}, {v, ops(opPut("/e", list()), opPut("/e/0", nine), opRemove("/e")), ops(opPut("/e", list(nine)), opRemove("/e/0"), opRemove("/e"))}, {v, ops(opPut("", list()), opInsert("/0", nine), opInsert("", yes)), ops(opPut("", list(nine)), opRemove("/0"), opPut("", v))}, {v, ops(opPut("/c/d", nine), opTest("/c/d", nine), opRemove("/c"), opTest("/a", integer(1))), ops(opPut("/c", ofJson(`{"d":9}`)), opPut("/c/d", integer(3)))},
		{ofJson(`{"a":1,"b":[1]}`), ops(opTest("/a", integer(1)), opRemove("/a"), opInsert("/b/0", null)), ops(opRemove("/b/0"), opPut("/a", integer(1)))},
	} {
		got, ok := impl.Undo(row.v, row.list)
		if !ok {
			t.Errorf("Undo of %s in %s fails", opsText(row.list), shortened(row.v))
		}
		checkOps(t, "Undo of "+opsText(row.list), got, row.want)
		checkUndo(t, row.v, row.list)
	}
	for _, bad := range [][]impl.Op{{opRemove("/e")}, {opRemove("")}, {opTest("/a", nine)}, {opPut("/a", nine), opTest("/a", integer(1))}, {opRemove("/e"), opPut("/a", nine)}, {opPut("/b/3", nine)}, {{Kind: 4}}, {opPut("/a", text("\xff"))}} {
		if got, ok := impl.Undo(v, bad); ok || len(got) > 0 {
			t.Errorf("Undo of %s = %s, %v", opsText(bad), opsText(got), ok)
		}
		checkUndo(t, v, bad)
	}
}

// What is undone comes back as it was, except that a key that was removed comes
// back behind the others.
func TestUndoneKeysMayComeInAnotherOrder(t *testing.T) {
	v := ofJson(`{"a":1,"b":{"c":2,"d":3},"e":4}`)
	list := []impl.Op{opRemove("/b/c"), opRemove("/a"), opPut("/f", yes), opPut("/e", yes)}
	after, _ := impl.Apply(v, list)
	undoing, _ := impl.Undo(v, list)
	back, ok := impl.Apply(after, undoing)
	if !ok || impl.PutJson(back) != `{"b":{"d":3,"c":2},"e":4,"a":1}` || impl.Same(back, v) || !impl.SameFields(back, v) {
		t.Errorf("back to %s, %v", impl.PutJson(back), ok)
	}
	// A map that is put back whole keeps the order that it had at that moment.
	list = []impl.Op{opRemove("/b/c"), opPut("/b/c", yes), opRemove("/b")}
	undoing, _ = impl.Undo(v, list)
	checkOps(t, "Undo", undoing, []impl.Op{opPut("/b", ofJson(`{"d":3,"c":true}`)), opRemove("/b/c"), opPut("/b/c", integer(2))})
	checkUndo(t, v, list)
	// The operations that undo can be undone in turn.
	after, _ = impl.Apply(v, list)
	redoing, ok := impl.Undo(after, undoing)
	back, _ = impl.Apply(after, undoing)
	if again, fine := impl.Apply(back, redoing); !ok || !fine || !impl.SameFields(again, after) {
		t.Errorf("again %s", impl.PutJson(again))
	}
}

func TestUndoAtTheLimits(t *testing.T) {
	full := list(repeated(null, 299)...)
	pairs := textNumbered(149)
	for _, row := range []struct {
		v    impl.Value
		list []impl.Op
	}{
		{full, []impl.Op{opRemove("/298"), opRemove("/0"), opPut("", null)}}, {full, []impl.Op{opPut("", yes), opPut("", full), opRemove("/100"), opInsert("/0", yes)}}, {list(repeated(null, 298)...), []impl.Op{opInsert("/298", yes), opRemove("/0"), opInsert("/0", list())}}, {full, []impl.Op{opInsert("/0", yes)}},
		{pairs, []impl.Op{opRemove("/0"), opPut("/0", null), opRemove("/148"), opPut("/new", null)}}, {pairs, []impl.Op{opPut("/new", null)}}, {pairs, []impl.Op{opInsert("/5", list())}},
		{wrapped(null, 12), []impl.Op{{Kind: impl.OpPut, Steps: equalSteps("0", 12), Value: yes}, {Kind: impl.OpRemove, Steps: equalSteps("0", 12)}, {Kind: impl.OpInsert, Steps: equalSteps("0", 12), Value: list()}}}, {wrapped(null, 12), []impl.Op{{Kind: impl.OpInsert, Steps: equalSteps("0", 13), Value: yes}}},
		{dict(text(strings.Repeat("/", 2000)), null), []impl.Op{opRemove("/" + strings.Repeat("~1", 2000)), opPut("/"+strings.Repeat("~0", 2000), text(strings.Repeat("a", 2000)))}},
	} {
		checkUndo(t, row.v, row.list)
	}
}

func TestUndoingRestoresTheValue(t *testing.T) {
	random := rand.New(rand.NewSource(92))
	undone, failed := 0, 0
	for range 4000 {
		v := randomValue(random, 4, random.Intn(2) == 0)
		list, after := randomOps(random, v, random.Intn(12))
		if random.Intn(4) == 0 {
			list = slices.Insert(list, random.Intn(len(list)+1), randomOp(random, v))
		}
		checkUndo(t, v, list)
		if _, ok := impl.Undo(v, list); !ok {
			failed++
			continue
		}
		undone += len(list)
		checkUndo(t, v, append(slices.Clone(list), impl.Diff(after, v)...))
	}
	if undone < 5000 || failed < 100 {
		t.Error("operations that were undone, and lists that failed:", undone, failed)
	}
}

func TestSameFields(t *testing.T) {
	for _, row := range []struct {
		a, b string
		want bool
	}{
		{`1`, `1`, true}, {`1`, `2`, false}, {`{}`, `{}`, true}, {`[]`, `{}`, false}, {`{"a":1,"b":2}`, `{"b":2,"a":1}`, true}, {`{"a":1,"b":2,"c":3}`, `{"c":3,"b":2,"a":1}`, true}, {`{"a":1,"b":2}`, `{"a":2,"b":1}`, false}, {`{"a":1,"b":2}`, `{"b":1,"a":2}`, false}, {`{"a":1}`, `{"a":1,"b":2}`, false}, {`{"a":1,"b":2}`, `{"a":1}`, false}, {`{"a":1,"b":null}`, `{"a":1}`, false}, {`{"a":1}`, `{"b":1}`, false},
		{`[1,2]`, `[1,2]`, true}, {`[1,2]`, `[2,1]`, false}, {`[{"a":1,"b":2},3]`, `[{"b":2,"a":1},3]`, true}, {`[{"a":1,"b":2},3]`, `[3,{"a":1,"b":2}]`, false}, {`[{"a":1},{"b":2}]`, `[{"b":2},{"a":1}]`, false}, {`{"x":[1,2]}`, `{"x":[2,1]}`, false},
		{`{"x":{"a":1,"b":2},"y":0}`, `{"y":0,"x":{"b":2,"a":1}}`, true}, {`{"x":{"a":1,"b":2},"y":0}`, `{"y":0,"x":{"b":1,"a":2}}`, false}, {`{"x":[{"a":{"b":1,"c":2},"d":[]}]}`, `{"x":[{"d":[],"a":{"c":2,"b":1}}]}`, true}, {`{"x":[{"a":{"b":1,"c":2},"d":[]}]}`, `{"x":[{"d":[],"a":{"c":1,"b":2}}]}`, false},
	} {
		a, b := ofJson(row.a), ofJson(row.b)
		if impl.SameFields(a, b) != row.want || impl.SameFields(b, a) != row.want {
			t.Errorf("SameFields of %s and %s is not %v", row.a, row.b, row.want)
		}
	}
	a, b := dict(integer(1), yes, text("1"), tag(5, dict(integer(2), no, integer(-2), null)), integer(-1), list()), dict(integer(-1), list(), text("1"), tag(5, dict(integer(-2), null, integer(2), no)), integer(1), yes)
	if !impl.SameFields(a, b) || impl.SameFields(a, list(b)) || impl.SameFields(dict(integer(1), yes), dict(text("1"), yes)) || impl.SameFields(tag(5, null), tag(6, null)) {
		t.Error("SameFields of integer keys and tags")
	}
}

func TestSameFieldsOfShuffledValues(t *testing.T) {
	random := rand.New(rand.NewSource(93))
	values := []impl.Value{mixed, parts, numbered(149), textNumbered(149), shuffledMap(149, 7), deepMap(dict(text("a"), null, text("b"), yes), 11)}
	for range 500 {
		values = append(values, randomValue(random, 4, false))
	}
	for i, v := range values {
		other := shuffled(random, v)
		if !impl.SameFields(v, other) || !impl.SameFields(other, v) || !impl.SameFields(v, v) || !impl.SameFields(v, impl.Sorted(v)) {
			t.Fatalf("SameFields of %s in another order", shortened(v))
		}
		_, changed := randomOps(random, v, 2)
		for _, w := range []impl.Value{changed, shuffled(random, changed), values[(i+1)%len(values)]} {
			if impl.SameFields(other, w) != sameFieldsByHand(other, w) {
				t.Fatalf("SameFields of %s and %s", shortened(other), shortened(w))
			}
		}
	}
}

// The pairs of an invalid value stay in their order.
func TestSameFieldsOfInvalidValues(t *testing.T) {
	bad := text("\xff")
	a, b := dict(text("a"), bad, text("b"), no), dict(text("b"), no, text("a"), bad)
	if impl.SameFields(a, b) || !impl.SameFields(a, a) || impl.SameFields(dict(text("b"), yes, text("a"), no, text("b"), yes), dict(text("a"), no, text("b"), yes, text("b"), yes)) {
		t.Error("SameFields of invalid values in another order")
	}
	all := bothKinds()
	random := rand.New(rand.NewSource(94))
	for why, v := range invalidValues() {
		if !impl.SameFields(v, v) || !impl.SameFields(list(v), list(v)) {
			t.Errorf("%s: not SameFields of itself", why)
		}
		other := shuffled(random, v)
		if impl.SameFields(v, other) != (order(v, other) == 0) {
			t.Errorf("%s: SameFields in another order", why)
		}
		for _, w := range all {
			if impl.SameFields(v, w) != sameFieldsByHand(v, w) || impl.SameFields(w, v) != sameFieldsByHand(w, v) {
				t.Errorf("%s: SameFields with %s", why, shortened(w))
			}
		}
	}
}

func TestMergePatch(t *testing.T) {
	for _, row := range []struct{ v, p, want string }{
		// A p that is no map.
		{`{"a":1}`, `[1]`, `[1]`}, {`{"a":1}`, `null`, `null`}, {`{"a":1}`, `5`, `5`}, {`[1]`, `"a"`, `"a"`}, {`1`, `false`, `false`}, {`{"a":1}`, `[{"a":null}]`, `[{"a":null}]`}, {`{"a":1}`, `[null]`, `[null]`}, {`null`, `1.5`, `1.5`},
		// A v that is no map.
		{`null`, `{}`, `{}`}, {`[1,2]`, `{}`, `{}`}, {`5`, `{"a":1}`, `{"a":1}`}, {`"a"`, `{"a":null}`, `{}`}, {`[1]`, `{"0":2}`, `{"0":2}`}, {`1.5`, `{"a":{"b":null}}`, `{"a":{}}`}, {`true`, `{"b":1,"a":2}`, `{"b":1,"a":2}`},
		// Keys that are there and keys that are not.
		{`{"a":1}`, `{}`, `{"a":1}`}, {`{}`, `{}`, `{}`}, {`{"a":1,"b":2}`, `{"a":null}`, `{"b":2}`}, {`{"a":1,"b":2}`, `{"b":null}`, `{"a":1}`}, {`{"a":1}`, `{"a":null}`, `{}`}, {`{"a":1}`, `{"b":null}`, `{"a":1}`}, {`{"a":1}`, `{"b":null,"a":null,"c":null}`, `{}`}, {`{"a":null}`, `{"a":null}`, `{}`}, {`{"a":null,"b":null}`, `{"b":1}`, `{"a":null,"b":1}`}, {`{"a":1}`, `{"b":2}`, `{"a":1,"b":2}`}, {`{"a":1}`, `{"c":3,"b":2}`, `{"a":1,"c":3,"b":2}`}, {`{"a":1,"b":2,"c":3}`, `{"c":5,"a":4}`, `{"a":4,"b":2,"c":5}`}, {`{"a":1,"b":2,"c":3}`, `{"d":5,"b":null,"a":4,"e":null,"f":6}`, `{"a":4,"c":3,"d":5,"f":6}`}, {`{"":1,"a":2}`, `{"":null}`, `{"a":2}`}, {`{}`, `{"":1}`, `{"":1}`},
		// Values that are maps, lists and others in turn.
		{`{"a":{"b":1}}`, `{"a":5}`, `{"a":5}`}, {`{"a":{"b":1}}`, `{"a":[null]}`, `{"a":[null]}`}, {`{"a":[1,2]}`, `{"a":[3]}`, `{"a":[3]}`}, {`{"a":[1,{"b":2}]}`, `{"a":[{"b":null}]}`, `{"a":[{"b":null}]}`}, {`{"a":5}`, `{"a":{}}`, `{"a":{}}`}, {`{"a":[1]}`, `{"a":{"b":1}}`, `{"a":{"b":1}}`}, {`{"a":[1]}`, `{"a":{"b":null}}`, `{"a":{}}`}, {`{"a":{"b":1}}`, `{"a":{}}`, `{"a":{"b":1}}`}, {`{"a":{"b":1}}`, `{"a":{"c":2}}`, `{"a":{"b":1,"c":2}}`}, {`{"a":{"b":1}}`, `{"a":{"b":null}}`, `{"a":{}}`}, {`{"a":{"b":1}}`, `{"a":null}`, `{}`}, {`{"a":{"b":{"c":1,"d":2}},"e":3}`, `{"a":{"b":{"d":null,"f":4}}}`, `{"a":{"b":{"c":1,"f":4}},"e":3}`}, {`{}`, `{"a":{"b":{"c":null}}}`, `{"a":{"b":{}}}`}, {`{}`, `{"a":{"b":{"c":1,"d":null},"e":null}}`, `{"a":{"b":{"c":1}}}`}, {`{"a":null}`, `{"a":{"b":null,"c":1}}`, `{"a":{"c":1}}`},
		{`{"a":1,"b":{"c":2,"d":3}}`, `{"a":null,"b":{"c":null},"e":{"f":null,"g":4},"z":null}`, `{"b":{"d":3},"e":{"g":4}}`},
	} {
		checkMerge(t, ofJson(row.v), ofJson(row.p), ofJson(row.want))
	}
}

func TestMergePatchOfOtherKeysAndTags(t *testing.T) {
	for _, row := range [][3]impl.Value{
		{dict(integer(1), yes), dict(integer(1), null), dict(integer(1), yes)}, {dict(integer(1), yes), dict(integer(1), no, integer(2), no), dict(integer(1), yes)}, {null, dict(integer(1), no), dict()}, {dict(text("1"), yes), dict(integer(1), null, text("1"), no), dict(text("1"), no)}, {dict(integer(1), yes), dict(text("1"), null), dict(integer(1), yes)}, {dict(integer(1), yes), dict(text("1"), no), dict(integer(1), yes, text("1"), no)}, {dict(integer(1), yes, text("1"), yes, integer(2), yes), dict(text("1"), null), dict(integer(1), yes, integer(2), yes)},
		{dict(text("a"), dict(integer(1), yes)), dict(text("a"), dict(integer(1), null, text("b"), no)), dict(text("a"), dict(integer(1), yes, text("b"), no))}, {dict(integer(0), yes), dict(text(""), null), dict(integer(0), yes)}, {dict(), dict(integer(0), dict(text("a"), yes), text("b"), dict(integer(0), yes)), dict(text("b"), dict())},
		{dict(text("k"), text("a"), text("b"), yes), dict(text("a"), null), dict(text("k"), text("a"), text("b"), yes)}, {dict(text("k"), text("a")), dict(text("a"), no), dict(text("k"), text("a"), text("a"), no)},
		{tag(5, dict(text("a"), yes)), dict(text("a"), null), dict()}, {dict(text("a"), yes), tag(5, dict(text("a"), null)), tag(5, dict(text("a"), null))}, {dict(text("a"), tag(5, dict(text("b"), yes))), dict(text("a"), dict(text("c"), no)), dict(text("a"), dict(text("c"), no))}, {dict(text("a"), yes), dict(text("a"), tag(5, dict(text("b"), null))), dict(text("a"), tag(5, dict(text("b"), null)))}, {octets("a"), dict(text("a"), octets("\xff")), dict(text("a"), octets("\xff"))},
	} {
		checkMerge(t, row[0], row[1], row[2])
	}
}

func TestMergePatchOfInvalidValues(t *testing.T) {
	for _, bad := range invalidValues() {
		for _, p := range []impl.Value{null, yes, dict(), dict(text("a"), null), dict(text("a"), yes), list(), bad} {
			checkMerge(t, bad, p, bad)
			checkMerge(t, list(bad), p, list(bad))
			checkMerge(t, dict(text("a"), bad), p, dict(text("a"), bad))
		}
		for _, v := range []impl.Value{null, yes, dict(), mixed, list(null), dict(text("a"), dict(text("b"), yes))} {
			checkMerge(t, v, bad, v)
			checkMerge(t, v, dict(text("a"), bad), v)
			checkMerge(t, v, dict(integer(1), bad), v)
			checkMerge(t, v, dict(text("a"), null, text("b"), list(bad)), v)
		}
	}
}

func TestMergePatchWithTooManyNodes(t *testing.T) {
	pairs, fewer := textNumbered(149), textNumbered(148)
	checkMerge(t, pairs, dict(text("new"), yes), pairs)
	checkMerge(t, pairs, dict(text("0"), yes, text("new"), yes), pairs)
	checkMerge(t, pairs, dict(text("0"), null, text("new"), yes, text("more"), yes), pairs)
	checkMerge(t, pairs, dict(text("0"), list(null)), dict(append([]impl.Value{text("0"), list(null)}, pairs.Kids[2:]...)...))
	checkMerge(t, pairs, dict(text("0"), list(null, null)), pairs)
	checkMerge(t, fewer, dict(text("new"), yes), dict(append(slices.Clone(fewer.Kids), text("new"), yes)...))
	checkMerge(t, fewer, dict(text("new"), list(null)), dict(append(slices.Clone(fewer.Kids), text("new"), list(null))...))
	checkMerge(t, fewer, dict(text("new"), list(null, null)), fewer)
	checkMerge(t, null, pairs, dict())
	ones := dict()
	for i := range 149 {
		ones.Kids = append(ones.Kids, text(fmt.Sprint("n", i)), integer(1))
	}
	checkMerge(t, null, ones, ones)
	checkMerge(t, pairs, ones, pairs)
	checkMerge(t, ones, pairs, ones)
	checkMerge(t, dict(text("a"), list(repeated(null, 297)...)), dict(text("a"), yes), dict(text("a"), yes))
	checkMerge(t, dict(text("a"), list(repeated(null, 297)...)), list(repeated(yes, 299)...), list(repeated(yes, 299)...))
}

// There may be too many nodes on the way, as long as there are not at the end.
func TestMergePatchIsCheckedAtTheEnd(t *testing.T) {
	pairs := textNumbered(149)
	more := dict(text("new"), yes, text("newer"), no, text("0"), null, text("1"), null)
	want := dict(append(slices.Clone(pairs.Kids[4:]), text("new"), yes, text("newer"), no)...)
	checkMerge(t, pairs, more, want)
	checkMerge(t, pairs, dict(more.Kids[:6]...), pairs)
	inner := textNumbered(147)
	checkMerge(t, dict(text("a"), inner, text("b"), yes), dict(text("a"), dict(more.Kids[:4]...), text("b"), null), dict(text("a"), inner, text("b"), yes))
	checkMerge(t, dict(text("a"), inner, text("b"), yes), dict(text("a"), dict(more.Kids[:2]...), text("b"), null), dict(text("a"), dict(append(slices.Clone(inner.Kids), text("new"), yes)...)))
	checkMerge(t, dict(text("a"), inner, text("b"), yes), dict(text("a"), dict(text("new"), yes, text("newer"), no, text("newest"), no), text("b"), no), dict(text("a"), inner, text("b"), yes))
	wide := list(repeated(yes, 200)...)
	checkMerge(t, dict(text("a"), wide, text("b"), dict(text("c"), yes)), dict(text("b"), dict(text("d"), list(repeated(no, 90)...), text("e"), yes), text("a"), null), dict(text("b"), dict(text("c"), yes, text("d"), list(repeated(no, 90)...), text("e"), yes)))
	checkMerge(t, dict(text("a"), wide), dict(text("b"), wide, text("a"), null), dict(text("b"), wide))
	checkMerge(t, dict(text("a"), wide), dict(text("b"), wide), dict(text("a"), wide))
}

// No node of the result is deeper than it was before.
func TestMergePatchAtTheGreatestDepth(t *testing.T) {
	deepest := deepMap(yes, 12)
	for levels := range 13 {
		v := deepMap(dict(text("b"), no), min(levels, 11))
		want := mergedByHand(v, deepest)
		if got := impl.MergePatch(v, deepest); order(got, want) != 0 || !impl.ValueOk(got) || impl.Deep(got) != 12 {
			t.Errorf("%d levels: %s", levels, shortened(got))
		}
		checkMerge(t, v, deepest, want)
		checkMerge(t, wrapped(null, levels), deepest, deepest)
		checkMerge(t, deepest, wrapped(null, levels), wrapped(null, levels))
		checkMerge(t, deepest, deepMap(wrapped(null, 12-levels), levels), mergedByHand(deepest, deepMap(wrapped(null, 12-levels), levels)))
	}
	checkMerge(t, deepest, deepMap(yes, 13), deepest)
	checkMerge(t, deepMap(yes, 13), deepest, deepMap(yes, 13))
	checkMerge(t, deepMap(yes, 13), null, deepMap(yes, 13))
}

func TestMergePatchTwiceIsMergePatchOnce(t *testing.T) {
	random := rand.New(rand.NewSource(95))
	check := func(v impl.Value, p impl.Value) {
		want := mergedByHand(v, p)
		if !impl.ValueOk(want) {
			want = v
		}
		checkMerge(t, v, p, want)
	}
	nulls := 0
	for range 5000 {
		v := randomValue(random, 4, random.Intn(3) == 0)
		_, p := randomOps(random, shuffled(random, v), random.Intn(6))
		p = withNulls(random, p)
		nulls += impl.Count(p, impl.VNull)
		check(v, p)
		check(p, v)
		check(v, randomValue(random, 4, false))
	}
	if nulls < 1000 {
		t.Error("nulls:", nulls)
	}
	values := pointedValues()
	for _, v := range values {
		check(v, parts)
		check(parts, v)
		check(mixed, v)
		check(v, v)
	}
}

// withNulls returns v with some of its maps' values null.
func withNulls(random *rand.Rand, v impl.Value) impl.Value {
	kids := []impl.Value{}
	for i, kid := range v.Kids {
		if v.Kind == impl.VMap && i%2 == 1 && random.Intn(3) == 0 {
			kid = null
		}
		kids = append(kids, withNulls(random, kid))
	}
	v.Kids = kids
	return v
}

// roomyOps returns a copy of list with spare capacity everywhere.
func roomyOps(list []impl.Op) []impl.Op {
	room := make([]impl.Op, 0, len(list)+3)
	for _, op := range list {
		room = append(room, impl.Op{Kind: op.Kind, Steps: roomySteps(op.Steps...), Value: roomy(op.Value)})
	}
	spare := room[len(room):cap(room)]
	for i := range spare {
		spare[i] = opPut("/spare", text("spare"))
	}
	return room
}

// fullOps returns list with all that stands in its spare capacities.
func fullOps(list []impl.Op) []impl.Op {
	all := []impl.Op{}
	for _, op := range list[:cap(list)] {
		all = append(all, impl.Op{Kind: op.Kind, Steps: slices.Clone(op.Steps[:cap(op.Steps)]), Value: full(op.Value)})
	}
	return all
}

func someOps(v impl.Value, x impl.Value) []impl.Op {
	return []impl.Op{opTest("", v), opPut("", list(x, v)), opInsert("/0", x), opRemove("/1"), opPut("/0", dict(text("a"), x)), opPut("/0/b", x), opRemove("/0/a"), opTest("/0/b", x)}
}

func TestPatchArgumentsAreNotModified(t *testing.T) {
	others := []impl.Value{mixed, parts, dict(text("a"), null, text("k"), dict(text("b"), list())), list(yes, list(no)), text("\xff")}
	for why, v := range bothKinds() {
		for i, x := range append(others, v) {
			a, b, room := roomy(v), roomy(x), roomyOps(someOps(v, []impl.Value{integer(5), list(null)}[i%2]))
			beforeA, beforeB, beforeRoom := full(a), full(b), fullOps(room)
			impl.Diff(a, b)
			impl.Diff(b, a)
			impl.Apply(a, room)
			impl.Undo(a, room)
			for _, op := range room {
				impl.Do(a, op)
				impl.Do(b, op)
			}
			impl.SameFields(a, b)
			impl.MergePatch(a, b)
			impl.MergePatch(b, a)
			if order(full(a), beforeA) != 0 || order(full(b), beforeB) != 0 || !sameOps(fullOps(room), beforeRoom) {
				t.Errorf("%s: modified with %s", why, shortened(x))
			}
		}
	}
}

// valueOfOps returns what the strings and lists of the operations are in, to look
// at their memory.
func valueOfOps(ops []impl.Op) impl.Value {
	v := list()
	for _, op := range ops {
		v.Kids = append(v.Kids, op.Value, ofTexts(op.Steps))
	}
	return v
}

// checkNewOps fails if the operations share memory with v, with the given ones,
// or with each other.
func checkNewOps(t *testing.T, why string, got []impl.Op, v impl.Value, given []impl.Op) {
	t.Helper()
	checkNew(t, why, valueOfOps(got), list(v, valueOfOps(given)))
	starts := map[*string]bool{}
	texts := []string{}
	for _, op := range given {
		if cap(op.Steps) > 0 {
			starts[&op.Steps[:1][0]] = true
		}
	}
	for _, op := range got {
		if cap(op.Steps) > 0 {
			if starts[&op.Steps[:1][0]] {
				t.Fatalf("%s: shared steps %q", why, op.Steps)
			}
			starts[&op.Steps[:1][0]] = true
		}
		for _, step := range op.Steps {
			checkNewStrings(t, why, []string{step}, ofTexts(texts))
			texts = append(texts, step)
		}
	}
}

func TestPatchResultsShareNoMemory(t *testing.T) {
	same := []impl.Value{text("same"), list(text("other"))}
	values := map[string]impl.Value{
		"mixed":          mixed,
		"one list twice": list(list(same...), tag(1, list(same...)), dict(text("kk"), list(same...), text("ll"), dict(text("mm"), list(same...), text("nn"), yes))),
		"the same keys":  dict(text("kk"), list(same...), text("ll"), dict(text("mm"), list(same...), text("nn"), no)),
		"other keys":     dict(text("ll"), dict(text("nn"), null, text("oo"), list(same...)), text("pp"), list(same...), text("qq"), list(same...)),
		"no values":      dict(text("kk"), null, text("ll"), dict(text("nn"), null, text("pp"), dict(text("rr"), null))),
		"lists":          list(list(same...), list(list(same...), list(same...)), tag(1, list(same...))),
		"invalid":        list(text("\xff"), list(null, octets("cc"))),
		"a text":         text("tt"),
		"too deep":       wrapped(list(text("dd"), list(same...)), 14),
	}
	for whyA, a := range values {
		for whyB, b := range values {
			a, b, why := roomy(apart(a)), roomy(apart(b)), whyA+", "+whyB
			checkNewOps(t, why+": Diff", impl.Diff(a, b), list(a, b), nil)
			checkNew(t, why+": MergePatch", impl.MergePatch(a, b), list(a, b))
			ops := impl.Diff(a, b)
			for _, given := range [][]impl.Op{nil, ops, someOps(a, b), append(slices.Clone(ops), opPut("/no/such", null)), {{Kind: 4}}} {
				checkApplyShares(t, why, a, given)
			}
		}
	}
	v := roomy(apart(mixed))
	got, _ := impl.Apply(v, make([]impl.Op, 1001))
	checkNew(t, "1001 operations: Apply", got, v)
	most := roomy(apart(dict(text("kk"), text("same"), text("ll"), list(repeated(text("other"), 295)...))))
	checkNew(t, "too many nodes: MergePatch", impl.MergePatch(most, dict(text("mm"), yes)), most)
}

// checkApplyShares fails if a result of the operations shares memory with a or them.
func checkApplyShares(t *testing.T, why string, a impl.Value, ops []impl.Op) {
	t.Helper()
	given := roomyOps(ops)
	for i, op := range given {
		given[i].Value = roomy(apart(op.Value))
		for j, step := range op.Steps {
			op.Steps[j] = strings.Clone(step)
		}
	}
	for i, op := range given {
		got, _ := impl.Do(a, op)
		checkNew(t, why+": Do", got, list(a, valueOfOps(given[i:i+1])))
	}
	got, _ := impl.Apply(a, given)
	checkNew(t, why+": Apply", got, list(a, valueOfOps(given)))
	undoing, _ := impl.Undo(a, given)
	checkNewOps(t, why+": Undo", undoing, a, given)
}

// Values of many levels, and such as contain themselves, are invalid.
func TestPatchesOfEndlessValues(t *testing.T) {
	defer debug.SetMaxStack(debug.SetMaxStack(1 << 20))
	for _, v := range []impl.Value{endlessMap(), list(endlessMap(), null), wrapped(text("a"), 10000), deepMap(text("a"), 10000)} {
		for _, other := range []impl.Value{null, list(null), dict(text("k"), yes), dict(), v} {
			if len(impl.Diff(v, other)) != 0 || len(impl.Diff(other, v)) != 0 {
				t.Error("Diff of an endless value")
			}
			if got := impl.MergePatch(v, other); !impl.Same(got, v) {
				t.Error("MergePatch of an endless value")
			}
			if got := impl.MergePatch(other, v); !impl.Same(got, other) {
				t.Error("MergePatch with an endless value")
			}
		}
		if !impl.SameFields(v, v) || impl.SameFields(v, null) || impl.SameFields(null, v) {
			t.Error("SameFields of an endless value")
		}
		for kind := -1; kind < 5; kind++ {
			for _, steps := range [][]string{nil, {"0"}, {"k"}, equalSteps("0", 10000)} {
				op := impl.Op{Kind: kind, Steps: steps, Value: v}
				if got, ok := impl.Do(v, op); ok || !impl.Same(got, v) {
					t.Error("Do of an endless value")
				}
				undoing, undone := impl.Undo(v, []impl.Op{op})
				if got, ok := impl.Apply(v, []impl.Op{op}); ok || !impl.Same(got, v) || undone || len(undoing) > 0 {
					t.Error("Apply to an endless value")
				}
				got, ok := impl.Do(list(yes), op)
				if removed := kind == impl.OpRemove && len(steps) == 1 && steps[0] == "0"; ok != removed || !ok && order(got, list(yes)) != 0 {
					t.Error("Do with an endless value")
				}
			}
		}
		if got, ok := impl.Apply(v, nil); !ok || !impl.Same(got, v) {
			t.Error("Apply of no operations to an endless value")
		}
	}
}
