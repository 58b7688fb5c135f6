package tests

import (
	"encoding/binary"
	"fmt"
	"math"
	"math/big"
	"math/rand"
	"runtime/debug"
	"strconv"
	"strings"
	"testing"

	"loop.example/g00421/impl"
)

// The tests of chapter 6 (promise 6). The expected results are written by hand
// or worked out here: by a writer that tries the forms in their order, and by a
// reader with a table of what each first byte may stand for.

// wide returns n in the given number of bytes.
func wide(n int, width int) string {
	return string(binary.BigEndian.AppendUint64(nil, uint64(n))[8-width:])
}

func oneByte(n int) string { return wide(n, 1) }

// numberForms returns the forms of a number or length whose first bytes begin
// with the given one, for widths that double, where the number is in range.
func numberForms(first int, n int, ranges ...[2]int) []string {
	forms := []string{}
	for i, limits := range ranges {
		if n >= limits[0] && n <= limits[1] {
			forms = append(forms, oneByte(first+i)+wide(n, 1<<i))
		}
	}
	return forms
}

// msgForms returns what a value may begin with in MessagePack in general, ahead of
// the bytes of its string and of its elements; first what the chapter states.
func msgForms(v impl.Value) []string {
	naturals := [][2]int{{0, 255}, {0, 65535}, {0, math.MaxUint32}, {0, math.MaxInt}}
	integers := [][2]int{{-128, 127}, {-32768, 32767}, {math.MinInt32, math.MaxInt32}, {math.MinInt, math.MaxInt}}
	n := map[int]int{impl.VInt: v.N, impl.VText: len(v.S), impl.VBytes: len(v.S), impl.VList: len(v.Kids), impl.VMap: len(v.Kids) / 2}[v.Kind]
	small := func(first int, least int, most int) []string {
		if n < least || n > most {
			return nil
		}
		return []string{oneByte(first + n)}
	}
	switch v.Kind {
	case impl.VInt:
		forms := append(small(0, -32, 127), numberForms(204, n, naturals...)...)
		return append(forms, numberForms(208, n, integers...)...)
	case impl.VDec:
		body := "\x04" + wide(v.E, 1) + wide(v.N, 8)
		return []string{"\xc7\x09" + body, "\xc8\x00\x09" + body, "\xc9\x00\x00\x00\x09" + body}
	case impl.VText:
		return append(small(160, 0, 31), numberForms(217, n, naturals[:3]...)...)
	case impl.VBytes:
		return numberForms(196, n, naturals[:3]...)
	case impl.VList:
		return append(small(144, 0, 15), "\xdc"+wide(n, 2), "\xdd"+wide(n, 4))
	case impl.VMap:
		return append(small(128, 0, 15), "\xde"+wide(n, 2), "\xdf"+wide(n, 4))
	case impl.VTag:
		body := "\x06" + wide(v.N, 4)
		return []string{"\xc7\x04" + body, "\xc8\x00\x04" + body, "\xc9\x00\x00\x00\x04" + body, "\xd6" + body}
	}
	return []string{map[int]string{impl.VNull: "\xc0", impl.VFalse: "\xc2", impl.VTrue: "\xc3"}[v.Kind]}
}

// msgWith returns a value, valid or not, with the form of the node with an index
// that is behind so many others, if there is one.
func msgWith(v impl.Value, index int, behind int) string {
	nodes, _ := nodesOf(v, 0)
	s := ""
	for i, n := range nodes {
		forms := msgForms(n)
		if i == index {
			s += forms[min(behind, len(forms)-1)]
		} else {
			s += forms[0]
		}
		if n.Kind == impl.VText || n.Kind == impl.VBytes {
			s += n.S
		}
	}
	return s
}

// msgOf returns the MessagePack form of a value, valid or not.
func msgOf(v impl.Value) string { return msgWith(v, -1, 0) }

// A msgRow is what a first byte stands for: a kind, and a number in the bytes
// behind it, which has to be in a range.
type msgRow struct {
	kind   int
	width  int
	signed bool
	least  int
	most   int
}

var msgRows = msgTable()

func msgTable() [256]*msgRow {
	rows := [256]*msgRow{
		192: {kind: impl.VNull}, 194: {kind: impl.VFalse}, 195: {kind: impl.VTrue},
		196: {impl.VBytes, 1, false, 0, 255}, 197: {impl.VBytes, 2, false, 256, 65535},
		204: {impl.VInt, 1, false, 128, 255}, 205: {impl.VInt, 2, false, 256, 65535},
		206: {impl.VInt, 4, false, 65536, 4294967295}, 207: {impl.VInt, 8, false, 4294967296, 9223372036854775807},
		208: {impl.VInt, 1, true, -128, -33}, 209: {impl.VInt, 2, true, -32768, -129},
		210: {impl.VInt, 4, true, -2147483648, -32769}, 211: {impl.VInt, 8, true, -9223372036854775808, -2147483649},
		217: {impl.VText, 1, false, 32, 255}, 218: {impl.VText, 2, false, 256, 65535},
		220: {impl.VList, 2, false, 16, 65535}, 222: {impl.VMap, 2, false, 16, 65535},
	}
	fill := func(from int, to int, kind int, n int) {
		for first := from; first <= to; first++ {
			rows[first] = &msgRow{kind: kind, least: n, most: n}
			n++
		}
	}
	fill(0, 127, impl.VInt, 0)
	fill(128, 143, impl.VMap, 0)
	fill(144, 159, impl.VList, 0)
	fill(160, 191, impl.VText, 0)
	fill(224, 255, impl.VInt, -32)
	return rows
}

// bigNumber reads a number of any width.
func bigNumber(s string, signed bool) *big.Int {
	n := new(big.Int).SetBytes([]byte(s))
	if signed && s != "" && s[0] >= 128 {
		n.Sub(n, new(big.Int).Lsh(big.NewInt(1), uint(8*len(s))))
	}
	return n
}

// number returns the row's number, and whether it is in the range.
func (row msgRow) number(s string) (int, bool) {
	if row.width == 0 {
		return row.least, true
	}
	n := bigNumber(s, row.signed)
	if !n.IsInt64() {
		return 0, false
	}
	small := int(n.Int64())
	return small, small >= row.least && small <= row.most
}

// extensionAt is nodeAt behind a byte 199.
func extensionAt(s string, i int) (impl.Value, int, int) {
	switch rest := s[i:]; {
	case strings.HasPrefix(rest, "\x09\x04") && len(rest) >= 11:
		return decimal(int(bigNumber(rest[3:11], true).Int64()), int(int8(rest[2]))), 0, i + 11
	case strings.HasPrefix(rest, "\x04\x06") && len(rest) >= 6:
		return tag(int(bigNumber(rest[2:6], false).Int64())), 1, i + 6
	}
	return impl.Value{}, 0, -1
}

// nodeAt returns a node without its elements, how many these are, and the index
// after it, or -1.
func nodeAt(s string, i int) (impl.Value, int, int) {
	if i < 0 || i >= len(s) {
		return impl.Value{}, 0, -1
	}
	if s[i] == 199 {
		return extensionAt(s, i+1)
	}
	row := msgRows[s[i]]
	if row == nil || len(s)-i-1 < row.width {
		return impl.Value{}, 0, -1
	}
	i += 1 + row.width
	n, fits := row.number(s[i-row.width : i])
	if !fits {
		return impl.Value{}, 0, -1
	}
	switch row.kind {
	case impl.VInt:
		return integer(n), 0, i
	case impl.VList:
		return list(), n, i
	case impl.VMap:
		return dict(), 2 * n, i
	case impl.VText, impl.VBytes:
		if n > len(s)-i {
			return impl.Value{}, 0, -1
		}
		return impl.Value{Kind: row.kind, S: s[i : i+n]}, 0, i + n
	}
	return impl.Value{Kind: row.kind}, 0, i
}

// msgByHand works out GetMsg, node by node, with the list of what is incomplete.
func msgByHand(s string, i int) (impl.Value, int) {
	type open struct {
		v    impl.Value
		left int
	}
	opens := []open{{list(), 1}}
	for nodes := 0; ; nodes++ {
		for opens[len(opens)-1].left == 0 {
			last := opens[len(opens)-1].v
			if len(opens) == 1 {
				if !impl.ValueOk(last.Kids[0]) {
					return impl.Value{}, -1
				}
				return last.Kids[0], i
			}
			opens = opens[:len(opens)-1]
			above := &opens[len(opens)-1]
			above.v.Kids = append(above.v.Kids, last)
		}
		v, kids, next := nodeAt(s, i)
		// More nodes are never valid.
		if next < 0 || nodes == 300 {
			return impl.Value{}, -1
		}
		i = next
		opens[len(opens)-1].left--
		opens = append(opens, open{v, kids})
	}
}

// msgEdges are the integers at and beside the ends of the ranges of the forms.
func msgEdges() []int {
	edges := []int{math.MinInt, math.MinInt + 1, math.MaxInt, math.MaxInt - 1}
	for _, n := range []int{0, 127, 128, 255, 256, 32767, 32768, 65535, 65536, 2147483647, 2147483648, 4294967295, 4294967296, -1, -31, -32, -33, -127, -128, -129, -255, -256, -32768, -32769, -65536, -2147483648, -2147483649, -4294967296} {
		edges = append(edges, n-1, n, n+1)
	}
	return edges
}

// msgValues are valid values of every kind.
func msgValues() map[string]impl.Value {
	values := cborValues()
	for why, v := range validValues() {
		values[why] = v
	}
	for _, n := range msgEdges() {
		values["edge "+strconv.Itoa(n)] = integer(n)
		values["edges of "+strconv.Itoa(n)] = dict(integer(n), list(integer(n), tag(4, integer(n))), text(""), integer(n))
	}
	for _, many := range []int{0, 1, 2, 30, 31, 32, 33, 127, 128, 254, 255, 256, 257, 1999, 2000} {
		s := strings.Repeat("s", many)
		values[fmt.Sprint("strings of ", many)] = list(text(s), octets(s), dict(text(s), octets(s)))
	}
	for _, many := range []int{0, 1, 14, 15, 16, 17, 127, 128, 149} {
		values[fmt.Sprint("a list of ", many)] = list(repeated(integer(1), many)...)
		values[fmt.Sprint("a map of ", many)] = numbered(many)
	}
	for _, n := range []int{0, 1, 3, 4, 5, 255, 256, 65535, 65536, 999999, 1000000} {
		for kind := range 10 {
			values[fmt.Sprint("a tag ", n, " of kind ", kind)] = tag(n, plainOf(kind))
		}
	}
	random := rand.New(rand.NewSource(6))
	for i := range 200 {
		values["another "+strconv.Itoa(i)] = randomValue(random, 5, false)
	}
	return values
}

// smallMsgValues are those of msgValues with a form that is not long.
func smallMsgValues() map[string]impl.Value {
	values := msgValues()
	for why, v := range values {
		if len(msgOf(v)) > 100 {
			delete(values, why)
		}
	}
	return values
}

// checkMsg fails if GetMsg is not v and next.
func checkMsg(t *testing.T, why string, s string, i int, v impl.Value, next int) {
	t.Helper()
	got, gotNext := impl.GetMsg(s, i)
	if gotNext != next || order(got, v) != 0 {
		t.Errorf("%s: GetMsg(%.100x, %d) = %s, %d, want %s, %d", why, s, i, shortened(got), gotNext, shortened(v), next)
	}
}

func checkNoMsg(t *testing.T, why string, s string, i int) {
	t.Helper()
	checkMsg(t, why, s, i, impl.Value{}, -1)
}

// checkMsgByHand fails if GetMsg is not what msgByHand makes of s.
func checkMsgByHand(t *testing.T, s string) {
	t.Helper()
	want, wantNext := msgByHand(s, 0)
	got, next := impl.GetMsg(s, 0)
	if next != wantNext || order(got, want) != 0 {
		t.Fatalf("GetMsg(%.100x) = %s, %d, want %s, %d", s, shortened(got), next, shortened(want), wantNext)
	}
	if next >= 0 && (!impl.ValueOk(got) || impl.PutMsg(got) != s[:next]) {
		t.Fatalf("GetMsg(%.100x) accepts other bytes than PutMsg's", s)
	}
}

// checkForm fails if PutMsg, MsgSize and GetMsg do not go with a form.
func checkForm(t *testing.T, v impl.Value, form string) {
	t.Helper()
	if got := impl.PutMsg(v); got != form {
		t.Errorf("PutMsg(%s) = %.100x, want %.100x", shortened(v), got, form)
	}
	if got := impl.MsgSize(v); got != len(form) {
		t.Errorf("MsgSize(%s) = %d, want %d", shortened(v), got, len(form))
	}
	checkMsg(t, "the form", form, 0, v, len(form))
	checkMsg(t, "the form within", "\xc1"+form+"\x00", 1, v, 1+len(form))
}

func TestPutMsgOfIntegers(t *testing.T) {
	rows := []struct {
		n    int
		form string
	}{
		{0, "00"}, {1, "01"}, {126, "7e"}, {127, "7f"}, {128, "cc80"}, {129, "cc81"}, {254, "ccfe"}, {255, "ccff"},
		{256, "cd0100"}, {257, "cd0101"}, {32767, "cd7fff"}, {32768, "cd8000"}, {65534, "cdfffe"}, {65535, "cdffff"},
		{65536, "ce00010000"}, {65537, "ce00010001"}, {2147483647, "ce7fffffff"}, {2147483648, "ce80000000"}, {4294967294, "cefffffffe"}, {4294967295, "ceffffffff"},
		{4294967296, "cf0000000100000000"}, {4294967297, "cf0000000100000001"}, {math.MaxInt - 1, "cf7ffffffffffffffe"}, {math.MaxInt, "cf7fffffffffffffff"},
		{-1, "ff"}, {-2, "fe"}, {-31, "e1"}, {-32, "e0"}, {-33, "d0df"}, {-34, "d0de"}, {-127, "d081"}, {-128, "d080"},
		{-129, "d1ff7f"}, {-130, "d1ff7e"}, {-255, "d1ff01"}, {-256, "d1ff00"}, {-257, "d1feff"}, {-32767, "d18001"}, {-32768, "d18000"},
		{-32769, "d2ffff7fff"}, {-65536, "d2ffff0000"}, {-65537, "d2fffeffff"}, {-2147483647, "d280000001"}, {-2147483648, "d280000000"},
		{-2147483649, "d3ffffffff7fffffff"}, {-4294967296, "d3ffffffff00000000"}, {-4294967297, "d3fffffffeffffffff"}, {math.MinInt + 1, "d38000000000000001"}, {math.MinInt, "d38000000000000000"},
		{0x0102030405060708, "cf0102030405060708"}, {0xa1b2c3d4, "cea1b2c3d4"}, {0xfedc, "cdfedc"}, {-0x0102030405060708, "d3fefdfcfbfaf9f8f8"}, {-0x71b2c3d4, "d28e4d3c2c"},
	}
	for _, row := range rows {
		form := unhex(row.form)
		checkForm(t, integer(row.n), form)
		checkForm(t, list(integer(row.n), integer(row.n)), "\x92"+form+form)
		checkForm(t, dict(integer(row.n), integer(row.n)), "\x81"+form+form)
		checkForm(t, tag(6, integer(row.n)), "\xc7\x04\x06\x00\x00\x00\x06"+form)
	}
}

func TestPutMsgOfStrings(t *testing.T) {
	rows := []struct {
		many  int
		text  string
		bytes string
	}{
		{0, "a0", "c400"}, {1, "a1", "c401"}, {15, "af", "c40f"}, {16, "b0", "c410"}, {31, "bf", "c41f"}, {32, "d920", "c420"}, {33, "d921", "c421"},
		{127, "d97f", "c47f"}, {128, "d980", "c480"}, {255, "d9ff", "c4ff"}, {256, "da0100", "c50100"}, {257, "da0101", "c50101"}, {2000, "da07d0", "c507d0"},
	}
	for _, row := range rows {
		s := strings.Repeat("a", row.many)
		checkForm(t, text(s), unhex(row.text)+s)
		checkForm(t, octets(s), unhex(row.bytes)+s)
		checkForm(t, dict(text(s), octets(s)), "\x81"+unhex(row.text)+s+unhex(row.bytes)+s)
		odd := strings.Repeat("\xff", row.many)
		checkForm(t, octets(odd), unhex(row.bytes)+odd)
	}
	checkForm(t, text("\u00fc\U00010151\x00"), unhex("a7c3bcf090859100"))
	checkForm(t, text(strings.Repeat("\u00fc", 16)), unhex("d920"+strings.Repeat("c3bc", 16)))
	checkForm(t, octets("\x00\xc0\xc3("), unhex("c40400c0c328"))
	checkNoMsg(t, "a text too long", unhex("da07d1")+strings.Repeat("a", 2001), 0)
	checkNoMsg(t, "bytes too long", unhex("c507d1")+strings.Repeat("a", 2001), 0)
}

func TestPutMsgOfListsAndMaps(t *testing.T) {
	rows := []struct {
		many int
		list string
		dict string
	}{
		{0, "90", "80"}, {1, "91", "81"}, {2, "92", "82"}, {14, "9e", "8e"}, {15, "9f", "8f"}, {16, "dc0010", "de0010"}, {17, "dc0011", "de0011"}, {127, "dc007f", "de007f"}, {149, "dc0095", "de0095"},
	}
	for _, row := range rows {
		checkForm(t, list(repeated(no, row.many)...), unhex(row.list)+strings.Repeat("\xc2", row.many))
		pairs := ""
		for n := range row.many {
			pairs += msgOf(integer(n)) + "\xc0"
		}
		checkForm(t, numbered(row.many), unhex(row.dict)+pairs)
	}
	checkForm(t, list(repeated(yes, 256)...), unhex("dc0100")+strings.Repeat("\xc3", 256))
	checkForm(t, list(repeated(yes, 299)...), unhex("dc012b")+strings.Repeat("\xc3", 299))
}

func TestPutMsg(t *testing.T) {
	rows := []struct {
		v    impl.Value
		form string
	}{
		{null, "c0"}, {no, "c2"}, {yes, "c3"},
		{decimal(15, -1), "c70904ff000000000000000f"}, {decimal(-15, -1), "c70904fffffffffffffffff1"},
		{decimal(1, 20), "c70904140000000000000001"}, {decimal(-1, 19), "c7090413ffffffffffffffff"}, {decimal(1, -20), "c70904ec0000000000000001"},
		{decimal(999999999999999999, 20), "c70904140de0b6b3a763ffff"}, {decimal(-999999999999999999, 20), "c7090414f21f494c589c0001"},
		{decimal(999999999999999999, -20), "c70904ec0de0b6b3a763ffff"}, {decimal(-999999999999999999, -20), "c70904ecf21f494c589c0001"},
		{tag(0, null), "c7040600000000c0"}, {tag(1000000, null), "c70406000f4240c0"}, {tag(4, no), "c7040600000004c2"}, {tag(258, yes), "c7040600000102c3"},
		{tag(1000000, decimal(5, -1)), "c70406000f4240c70904ff0000000000000005"}, {tag(0, text("ab")), "c7040600000000a26162"}, {tag(0, octets("\xff")), "c7040600000000c401ff"},
		{tag(1, list(null)), "c704060000000191c0"}, {tag(2, dict(text("k"), null)), "c704060000000281a16bc0"}, {tag(3, tag(4, integer(-33))), "c7040600000003c7040600000004d0df"},
		{tag(4, list(integer(-1), integer(15))), "c704060000000492ff0f"},
		{list(list(), dict(), list(list())), "9390809190"}, {list(integer(1), list(integer(2), integer(3))), "9201920203"},
		{dict(text("b"), integer(1), text("a"), list(integer(2))), "82a16201a1619102"}, {dict(integer(-1), dict(text(""), dict())), "81ff81a080"},
		{dict(text("1"), null, integer(1), null), "82a131c001c0"}, {dict(integer(0), null, text(""), null), "8200c0a0c0"},
		{list(decimal(15, -1), dict(text("a"), decimal(-25, -2))), "92c70904ff000000000000000f81a161c70904feffffffffffffffe7"},
	}
	for _, row := range rows {
		checkForm(t, row.v, unhex(row.form))
	}
}

func TestMsgFormsAndSizes(t *testing.T) {
	for why, v := range msgValues() {
		form := msgOf(v)
		if got := impl.PutMsg(v); got != form {
			t.Errorf("%s: PutMsg = %.100x, want %.100x", why, got, form)
		}
		if got := impl.MsgSize(v); got != len(form) {
			t.Errorf("%s: MsgSize = %d, want %d", why, got, len(form))
		}
	}
	for why, v := range invalidValues() {
		for i, with := range placed(v) {
			if got, size := impl.PutMsg(with), impl.MsgSize(with); got != "" || size != 0 {
				t.Errorf("%s, at place %d: PutMsg = %.100x, MsgSize = %d", why, i, got, size)
			}
		}
	}
}

func TestValuesAreRecoveredFromMsg(t *testing.T) {
	for why, v := range msgValues() {
		s := impl.PutMsg(v)
		checkMsg(t, why, s, 0, v, len(s))
		checkMsg(t, why, "\x91\xc1"+s, 2, v, 2+len(s))
		checkMsg(t, why, "\xcc"+s+s+"\xff", 1, v, 1+len(s))
		checkMsg(t, why, s+s, len(s), v, 2*len(s))
		checkNoMsg(t, why+", at the end", s, len(s))
		for i := range len(s) {
			checkNoMsg(t, why+", cut", s[:i], 0)
			checkNoMsg(t, why+", cut", "\x01"+s[:i], 1)
		}
	}
}

func TestGetMsgAtIndexesOutside(t *testing.T) {
	for _, s := range []string{"", "\x00", "\x92\x01\x02", strings.Repeat("\x00", 50), "\xc7\x04\x06\x00\x00\x00\x01\xc0"} {
		for _, i := range []int{-1, -2, -len(s) - 1, len(s), len(s) + 1, len(s) + 100, 1 << 32, math.MinInt, math.MaxInt} {
			checkNoMsg(t, "outside", s, i)
		}
	}
}

func TestGetMsgOfLongerForms(t *testing.T) {
	values := smallMsgValues()
	for _, n := range msgEdges() {
		values[strconv.Itoa(n)] = integer(n)
	}
	for why, v := range values {
		nodes, _ := nodesOf(v, 0)
		for index, n := range nodes {
			for behind := 1; behind < len(msgForms(n)); behind++ {
				s := msgWith(v, index, behind)
				checkNoMsg(t, fmt.Sprint(why, ", node ", index, ", form ", behind), s, 0)
				checkNoMsg(t, fmt.Sprint(why, ", node ", index, ", form ", behind), "\x00"+s+"\x00", 1)
				checkMsgByHand(t, s)
			}
		}
	}
	for _, n := range msgEdges() {
		if many := len(msgForms(integer(n))); many < 1 || n == 0 && many != 9 || n == -32 && many != 5 {
			t.Errorf("the test has %d forms of %d", many, n)
		}
	}
	for _, many := range []int{0, 31, 32, 255, 256, 2000} {
		s := strings.Repeat("s", many)
		for _, v := range []impl.Value{text(s), octets(s)} {
			for behind := 1; behind < len(msgForms(v)); behind++ {
				checkNoMsg(t, fmt.Sprint("a string of ", many, ", form ", behind), msgWith(v, 0, behind), 0)
			}
		}
	}
	for _, many := range []int{0, 15, 16, 149} {
		for _, v := range []impl.Value{list(repeated(null, many)...), numbered(many)} {
			for behind := 1; behind < len(msgForms(v)); behind++ {
				checkNoMsg(t, fmt.Sprint(many, " elements, form ", behind), msgWith(v, 0, behind), 0)
			}
		}
	}
}

// What GetMsg does not accept, by the reason.
var msgRejects = map[string]string{
	"nothing":                         "",
	"a natural of a longer form":      "cc00 cc01 cc7f cd0000 cd007f cd0080 cd00ff ce00000000 ce000000ff ce0000ffff cf0000000000000000 cf000000000000007f cf00000000ffffffff",
	"a natural of a negative's form":  "d000 d001 d07f d10000 d10080 d100ff d17fff d200000000 d20000ffff d27fffffff d30000000000000000 d300000000ffffffff d37fffffffffffffff",
	"a negative of a longer form":     "d0ff d0fe d0e0 d1ffff d1ffe0 d1ffdf d1ff80 d2ffffffff d2ffffffe0 d2ffffff80 d2ffff8000 d3ffffffffffffffff d3ffffffffffffff80 d3ffffffffffff8000 d3ffffffff80000000",
	"a natural beyond 64 bits":        "cf8000000000000000 cf" + most + " cf8000000000000001 cffffffffffffffff0 cfffffffff7fffffff 91cf8000000000000000 81cf8000000000000000c0 c7040600000001cf8000000000000000",
	"a text of a longer form":         "d900 d90161 da0000 da000161 db00000000 db0000000161 d91f" + strings.Repeat("61", 31) + " da0020" + strings.Repeat("61", 32) + " da00ff" + strings.Repeat("61", 255),
	"a byte string of a longer form":  "c50000 c5000161 c600000000 c60000000161 c500ff" + strings.Repeat("61", 255) + " c600000100" + strings.Repeat("61", 256),
	"a list of a longer form":         "dc0000 dc000101 dc000f" + strings.Repeat("01", 15) + " dd00000000 dd0000000101 dd00000010" + strings.Repeat("01", 16),
	"a map of a longer form":          "de0000 de00010101 df00000000 df000000010101 de000101c0",
	"a first byte of no value":        "c1 c6 c8 c9 ca cb d4 d5 d6 d7 d8 db dd df c100 c60000000000 ca00000000 ca3f800000 cb3ff0000000000000 d400ff d500ffff d600ffffffff d7000000000000000000",
	"another form of an extension":    "c8000904ff000000000000000f c90000000904ff000000000000000f c800040600000001c0 c9000000040600000001c0 d60600000001c0 d704ff0000000000000f d804ff00000000000000000000000000000f",
	"a number that is cut short":      "cc cd cd01 ce ce010000 cf cf01000000000000 d0 d1 d1ff d2 d2ffff7f d3 d380000000000000 c4 c5 c501 d9 da da01 dc dc00 de de00",
	"a string beyond the end":         "a1 a261 bf c401 c4ff c40261 c50100 c5ffff61 d920 d9ff61 da0100 daffff6161 91a1 81a1 81a1a1 c7040600000001a1",
	"a list beyond the end":           "91 9201 9f01 9191 dc0010 dcffff dc0010010101 81a091 92c0",
	"a map beyond the end":            "81 8101 820101 82010102 8f de0010 deffff de00100101 8181 9181 810181",
	"an extension beyond the end":     "c7 c709 c70904 c70904ff c70904ff0000000000000f c704 c70406 c7040600 c704060000 c7040600000001 91c7 91c70406000000 c7040600000001c7040600000001",
	"an extension of another length":  "c70804ff000000000000000f c70804ff0000000000000f c70a04ff000000000000000f c70a04ff00000000000000000f c70004 c7010405 c7040400000001c0 c70306000001c0 c7050600000001c0 c705060000000001c0 c70006c0 c7090600000001c0 c708060000000000000001c0",
	"an extension of another type":    "c70900ff000000000000000f c70903ff000000000000000f c70905ff000000000000000f c70906ff000000000000000f c709ffff000000000000000f c7040400000001c0 c7040500000001c0 c7040700000001c0 c704ff00000001c0 c7040000000001c0",
	"a VDec that is none":             "c70904000000000000000001 c7090400000000000000000f c70904ff0000000000000000 c70904ff000000000000000a c70904fffffffffffffffff6 c70904eb0000000000000001 c70904150000000000000001 c70904800000000000000001 c709047f0000000000000001 c70904010000000000000001 c70904120000000000000009 c7090412fffffffffffffff7 c70904ff0de0b6b3a7640001 c70904fff21f494c589bffff c70904ff8000000000000000 c70904ff7fffffffffffffff c70904ff8000000000000001 c709040a0000000000000005",
	"a tag that is too great":         "c70406000f4241c0 c7040680000000c0 c70406ffffffffc0 c70406ffffffff00 c7040601000000c0 91c70406000f4241c0",
	"a text that is none":             "a1ff a1c3 a180 a2c328 a3eda080 a2c080 a4f4908080 a361c328 91a1ff 81a1ffc0 8101a1ff c7040600000001a1ff d920" + strings.Repeat("61", 31) + "ff da0100" + strings.Repeat("61", 255) + "c3",
	"a key that occurs twice":         "8201c001c0 82a161c0a161c0 82a0c0a0c0 82ffc0ffc0 8301c002c001c0 83a161c001c0a161c1 83a161c001c0a161c0 82cc80c0cc80c0 82d0dfc0d0dfc0 918201c001c0 81018201c001c0 c70406000000018201c001c0",
	"a key of another kind":           "81c0c0 81c2c0 81c3c0 81c400c0 81c40161c0 8190c0 8180c0 8191c0c0 81c7040600000001a161c0 81c704060000000101c0 81c70904ff000000000000000fc0 8201c0c0c0 9181c0c0",
	"an invalid element":              "91c1 92c0c1 81a0c1 8101a1ff c7040600000001c1 91c70904000000000000000001 8101c70904000000000000000001 c7040600000001c70904000000000000000001 91cc01 81cc01c0 8101cc01 81d90161c0 c7040600000001d0ff",
	"a list with an element too few":  "dc0010" + strings.Repeat("c0", 15),
	"a map with a value too few":      "8201c002 8fc0",
	"an extension ahead of its value": "c70406000000 c7040600000001",
}

func TestGetMsgRejects(t *testing.T) {
	for why, forms := range msgRejects {
		for form := range strings.SplitSeq(forms, " ") {
			s := unhex(form)
			checkMsgByHand(t, s)
			checkNoMsg(t, why, s, 0)
			checkNoMsg(t, why, "\x01"+s, 1)
			checkNoMsg(t, why+", within a list", "\x91"+s, 0)
			checkNoMsg(t, why+", as a value", "\x81\x01"+s, 0)
			checkNoMsg(t, why+", within a tag", "\xc7\x04\x06\x00\x00\x00\x01"+s, 0)
		}
	}
}

func TestGetMsgOfFirstBytesOfNoValue(t *testing.T) {
	tails := []string{"", "\x00", "\xff", strings.Repeat("\x00", 20), strings.Repeat("\xff", 20), strings.Repeat("\x01", 70000), "\x00\x00\x00\x00\x01\x01", "\x01\x04\x00", "\x06\x00\x00\x00\x01\xc0"}
	for _, first := range []int{193, 198, 200, 201, 202, 203, 212, 213, 214, 215, 216, 219, 221, 223} {
		for _, tail := range tails {
			checkNoMsg(t, "no value", oneByte(first)+tail, 0)
			checkNoMsg(t, "no value within a list", "\x91"+oneByte(first)+tail, 0)
			checkNoMsg(t, "no value behind a tag", "\xc7\x04\x06\x00\x00\x00\x01"+oneByte(first)+tail, 0)
		}
	}
}

func TestGetMsgOfEveryLengthAndTypeOfAnExtension(t *testing.T) {
	tails := []string{"\xff\x00\x00\x00\x00\x00\x00\x00\x0f", "\x00\x00\x00\x05\xc0", strings.Repeat("\x00", 300)}
	for length := range 256 {
		for kind := range 256 {
			for i, tail := range tails {
				s := "\xc7" + oneByte(length) + oneByte(kind) + tail
				switch {
				case length == 9 && kind == 4 && i == 0:
					checkMsg(t, "a VDec", s, 0, decimal(15, -1), 12)
				case length == 4 && kind == 6 && i == 0:
					checkNoMsg(t, "a VTag that is too great", s, 0)
				case length == 4 && kind == 6 && i == 1:
					checkMsg(t, "a VTag", s, 0, tag(5, null), 8)
				case length == 4 && kind == 6:
					checkMsg(t, "a VTag of 0", s, 0, tag(0, integer(0)), 8)
				default:
					checkNoMsg(t, "an extension", s, 0)
				}
			}
		}
	}
}

func TestMsgOfDecimals(t *testing.T) {
	valid := 0
	for _, n := range append(edgeNumbers(), msgEdges()...) {
		for e := -128; e < 128; e++ {
			if e%10 != 0 && (e < -25 || e > 25) {
				continue
			}
			s := "\xc7\x09\x04" + wide(e, 1) + wide(n, 8)
			if !decimalOk(n, e) {
				checkNoMsg(t, "no VDec", s, 0)
				continue
			}
			valid++
			checkForm(t, decimal(n, e), s)
		}
	}
	if valid == 0 {
		t.Error("no valid one")
	}
}

// msgWritable reports whether v, which is invalid, is the only value that its form
// could stand for.
func msgWritable(v impl.Value) bool {
	nodes, _ := nodesOf(v, 0)
	for _, n := range nodes {
		if n.Kind == impl.VTag && (n.N < 0 || n.N > math.MaxUint32) || n.Kind == impl.VDec && (n.E < -128 || n.E > 127) {
			return false
		}
	}
	return writable(v)
}

func TestMsgAtTheLimitsOfValues(t *testing.T) {
	tried := 0
	for why, v := range invalidValues() {
		if !msgWritable(v) {
			continue
		}
		tried++
		s := msgOf(v)
		checkNoMsg(t, why, s, 0)
		checkNoMsg(t, why, "\x00"+s+"\x00", 1)
		checkNoMsg(t, why, "\x91"+s, 0)
	}
	if tried < 40 {
		t.Errorf("only %d forms", tried)
	}
	nodes := func(many int) string { return "\xdc" + wide(many, 2) + strings.Repeat("\xc0", many) }
	checkMsg(t, "300 nodes", nodes(299), 0, list(repeated(null, 299)...), 302)
	checkNoMsg(t, "301 nodes", nodes(300), 0)
	checkNoMsg(t, "302 nodes", nodes(301), 0)
	for _, piece := range []string{"\x91", "\x81\x01", "\xc7\x04\x06\x00\x00\x00\x01"} {
		s := strings.Repeat(piece, 12) + "\xc0"
		if _, next := impl.GetMsg(s, 0); next != len(s) {
			t.Errorf("12 levels of %x: %d", piece, next)
		}
		checkNoMsg(t, "13 levels", piece+s, 0)
		checkNoMsg(t, "14 levels", piece+piece+s, 0)
	}
	checkNoMsg(t, "a deep VDec", strings.Repeat("\x91", 13)+msgOf(decimal(1, 20)), 0)
	checkForm(t, wrapped(decimal(1, 20), 12), strings.Repeat("\x91", 12)+msgOf(decimal(1, 20)))
}

func TestMsgOfManyLevelsAndElements(t *testing.T) {
	defer debug.SetMaxStack(debug.SetMaxStack(4 << 20))
	for _, piece := range []string{"\x91", "\x81\x01", "\x92\x01", "\xc7\x04\x06\x00\x00\x00\x01", "\xdc\xff\xff", "\xde\xff\xff\x01", "\x81"} {
		s := strings.Repeat(piece, 1000000/len(piece))
		checkNoMsg(t, "many levels", s, 0)
		checkNoMsg(t, "many levels", s+"\xc0", 0)
	}
	nulls := strings.Repeat("\xc0", 1000000)
	for _, many := range []int{300, 301, 1000, 65535} {
		checkNoMsg(t, "many elements", "\xdc"+wide(many, 2)+nulls, 0)
		checkNoMsg(t, "many pairs", "\xde"+wide(many, 2)+nulls, 0)
		checkNoMsg(t, "many lists", strings.Repeat("\xdc"+wide(many, 2), 12)+nulls, 0)
	}
	long := "\xda\xff\xff" + strings.Repeat("a", 65535)
	checkNoMsg(t, "long texts", "\xdc\xff\xff"+strings.Repeat(long, 400), 0)
	for _, deep := range []impl.Value{list(repeated(null, 100000)...), numbered(100000), wrapped(text("a"), 200000), endlessMap()} {
		if impl.PutMsg(deep) != "" || impl.MsgSize(deep) != 0 {
			t.Error("PutMsg of a value with too many nodes or levels")
		}
	}
}

func TestMsgOfEveryTwoBytes(t *testing.T) {
	for first := range 256 {
		checkMsgByHand(t, oneByte(first))
		for second := range 256 {
			s := oneByte(first) + oneByte(second)
			for _, with := range []string{s, "\x91" + s, "\x82\x01\xc0" + s, s + "\x00\x00\x00", s + "\xff\xff\xff\xff\xff\xff\xff", s + "\x7f\x80\x00\x00\x00\x00\x00", "\xc7\x04\x06\x00\x00" + s + "\x01"} {
				checkMsgByHand(t, with)
			}
		}
	}
}

func TestMsgOfPiecesInEveryOrder(t *testing.T) {
	pieces := []string{"\x01", "\xff", "\xcc\x80", "\xd0\x80", "\xa1a", "\xc4\x01a", "\x90", "\x91", "\x92", "\x80", "\x81", "\xc0", "\xc1", "\xc7", "\x04\x06\x00\x00\x00", "\x09\x04\xff\x00\x00\x00\x00\x00\x00\x00\x0f"}
	var walk func(s string, left int)
	walk = func(s string, left int) {
		checkMsgByHand(t, s)
		if left == 0 {
			return
		}
		for _, piece := range pieces {
			walk(s+piece, left-1)
		}
	}
	walk("", 4)
	pieces = []string{"\x01", "\xa1a", "\x82", "\x91", "\x81", "\xc7\x04\x06\x00\x00\x00\x04", "\xc0"}
	walk("", 6)
}

func TestMsgOfChangedBytes(t *testing.T) {
	random := rand.New(rand.NewSource(8))
	bytes := "\x00\x01\x04\x06\x09\x7f\x80\x81\x82\x8f\x90\x91\x9f\xa0\xa1\xbf\xc0\xc1\xc2\xc3\xc4\xc5\xc7\xcc\xcd\xce\xcf\xd0\xd1\xd2\xd3\xd6\xd9\xda\xdc\xde\xe0\xff"
	for _, v := range smallMsgValues() {
		s := msgOf(v)
		for i := range len(s) {
			checkMsgByHand(t, s[:i]+s[i+1:])
			other := oneByte(int(bytes[random.Intn(len(bytes))]))
			for _, b := range []string{other, oneByte(int(s[i] ^ 1)), oneByte(int(s[i] ^ 128)), oneByte(int(s[i] + 1)), oneByte(int(s[i] - 1))} {
				checkMsgByHand(t, s[:i]+b+s[i+1:])
			}
			checkMsgByHand(t, s[:i]+other+s[i:])
		}
	}
}

// wideNumbers are numbers with every bit near its place.
func wideNumbers() []int {
	numbers := append(msgEdges(), 0x0102030405060708, -0x0102030405060708, 0x00ff00ff00ff00ff, 0x7f80ff017e810100)
	for bit := range 64 {
		n := 1 << bit
		numbers = append(numbers, n-1, n, n+1, -n, ^n, n|1<<62, n|math.MinInt)
	}
	return numbers
}

// lowBytes works out the lowest bytes of n as a number from 0 on.
func lowBytes(n int, many int) *big.Int {
	return new(big.Int).Mod(big.NewInt(int64(n)), new(big.Int).Lsh(big.NewInt(1), uint(8*many)))
}

func TestPutWide(t *testing.T) {
	rows := []struct {
		n    int
		many int
		form string
	}{
		{0, 1, "00"}, {0, 8, "0000000000000000"}, {1, 1, "01"}, {1, 2, "0001"}, {255, 1, "ff"}, {256, 1, "00"}, {256, 2, "0100"}, {257, 1, "01"}, {65536, 2, "0000"}, {65536, 3, "010000"},
		{-1, 1, "ff"}, {-1, 8, most}, {-2, 3, "fffffe"}, {-256, 1, "00"}, {-256, 2, "ff00"}, {-257, 2, "feff"}, {math.MinInt, 8, "8000000000000000"}, {math.MinInt, 7, "00000000000000"}, {math.MaxInt, 8, "7fffffffffffffff"}, {math.MaxInt, 7, "ffffffffffffff"},
		{0x0102030405060708, 1, "08"}, {0x0102030405060708, 2, "0708"}, {0x0102030405060708, 3, "060708"}, {0x0102030405060708, 4, "05060708"}, {0x0102030405060708, 5, "0405060708"},
		{0x0102030405060708, 6, "030405060708"}, {0x0102030405060708, 7, "02030405060708"}, {0x0102030405060708, 8, "0102030405060708"},
		{1, 0, ""}, {1, -1, ""}, {1, 9, ""}, {-1, 0, ""}, {-1, 9, ""}, {1, 10, ""}, {1, 16, ""}, {1, 64, ""}, {1, -8, ""}, {1, 257, ""}, {1, math.MaxInt, ""}, {1, math.MinInt, ""}, {1, 1<<32 + 1, ""},
	}
	for _, row := range rows {
		if got := impl.PutWide(row.n, row.many); got != unhex(row.form) {
			t.Errorf("PutWide(%d, %d) = %x, want %s", row.n, row.many, got, row.form)
		}
	}
	for _, n := range wideNumbers() {
		for many := 1; many <= 8; many++ {
			want := string(lowBytes(n, many).FillBytes(make([]byte, many)))
			if got := impl.PutWide(n, many); got != want {
				t.Errorf("PutWide(%d, %d) = %x, want %x", n, many, got, want)
			}
		}
	}
}

func checkWide(t *testing.T, s string, i int, many int, want int, wantOk bool) {
	t.Helper()
	if got, ok := impl.GetWide(s, i, many); got != want || ok != wantOk {
		t.Errorf("GetWide(%x, %d, %d) = %d, %v, want %d, %v", s, i, many, got, ok, want, wantOk)
	}
}

func TestGetWide(t *testing.T) {
	s := "\x01\x02\x03\x04\x05\x06\x07\x08\x80\xff\xfe\xfd\xfc\xfb\xfa\xf9\xf8"
	for i := -2; i <= len(s)+2; i++ {
		for many := -2; many <= 11; many++ {
			if i < 0 || many < 1 || many > 8 || i+many > len(s) {
				checkWide(t, s, i, many, 0, false)
				continue
			}
			checkWide(t, s, i, many, int(bigNumber(s[i:i+many], many == 8).Int64()), true)
		}
	}
	rows := []struct {
		form string
		i    int
		many int
		want int
		ok   bool
	}{
		{"ff", 0, 1, 255, true}, {"80", 0, 1, 128, true}, {"8000", 0, 2, 32768, true}, {"00fffe", 1, 2, 65534, true}, {"ffffff", 0, 3, 16777215, true}, {"ffffffff", 0, 4, 4294967295, true},
		{"ffffffffff", 0, 5, 1<<40 - 1, true}, {"ffffffffffff", 0, 6, 1<<48 - 1, true}, {"ffffffffffffff", 0, 7, 1<<56 - 1, true}, {"80000000000000", 0, 7, 1 << 55, true},
		{most, 0, 8, -1, true}, {"8000000000000000", 0, 8, math.MinInt, true}, {"7fffffffffffffff", 0, 8, math.MaxInt, true}, {"fffffffffffffff0", 0, 8, -16, true}, {"0000000000000001", 0, 8, 1, true}, {"00" + most, 1, 8, -1, true},
		{most + "ff", 0, 9, 0, false}, {most, 1, 8, 0, false}, {most, 8, 1, 0, false}, {most, 9, 1, 0, false}, {most, 7, 1, 255, true}, {most, 7, 2, 0, false},
		{"", 0, 1, 0, false}, {"", 0, 0, 0, false}, {"ff", 0, 0, 0, false}, {"ff", 0, -1, 0, false}, {"ff", -1, 1, 0, false}, {"ffff", -1, 2, 0, false}, {"ff", 1, 1, 0, false}, {"ff", 2, 1, 0, false}, {"ff", 1, -1, 0, false}, {"ff", 1, 0, 0, false},
		{most, math.MaxInt, 1, 0, false}, {most, math.MaxInt, 8, 0, false}, {most, math.MinInt, 8, 0, false}, {most, 1, math.MaxInt, 0, false}, {most, 1, math.MinInt, 0, false}, {most, math.MinInt, math.MinInt, 0, false}, {most, 0, 1<<32 + 1, 0, false}, {most, 1 << 32, 1, 0, false},
	}
	for _, row := range rows {
		checkWide(t, unhex(row.form), row.i, row.many, row.want, row.ok)
	}
	for _, n := range wideNumbers() {
		for many := 1; many <= 8; many++ {
			form := impl.PutWide(n, many)
			want := int(bigNumber(form, many == 8).Int64())
			checkWide(t, "\xff"+form+"\xff", 1, many, want, true)
			checkWide(t, form[1:], 0, many, 0, false)
		}
		checkWide(t, impl.PutWide(n, 8), 0, 8, n, true)
	}
}

func TestSignOf(t *testing.T) {
	rows := []struct{ n, many, want int }{
		{0, 1, 0}, {127, 1, 127}, {128, 1, -128}, {255, 1, -1}, {256, 1, 0}, {383, 1, 127}, {384, 1, -128}, {-1, 1, -1}, {-128, 1, -128}, {-129, 1, 127},
		{32767, 2, 32767}, {32768, 2, -32768}, {65534, 2, -2}, {65535, 2, -1}, {65536, 2, 0}, {255, 2, 255}, {128, 2, 128}, {-32769, 2, 32767},
		{8388607, 3, 8388607}, {8388608, 3, -8388608}, {16777215, 3, -1}, {2147483647, 4, 2147483647}, {2147483648, 4, -2147483648}, {4294967295, 4, -1}, {4294967296, 4, 0},
		{1<<39 - 1, 5, 1<<39 - 1}, {1 << 39, 5, -1 << 39}, {1<<47 - 1, 6, 1<<47 - 1}, {1 << 47, 6, -1 << 47}, {1<<55 - 1, 7, 1<<55 - 1}, {1 << 55, 7, -1 << 55}, {1<<56 - 1, 7, -1},
		{math.MaxInt, 8, math.MaxInt}, {math.MinInt, 8, math.MinInt}, {-1, 8, -1}, {math.MaxInt, 7, -1}, {math.MinInt, 7, 0}, {math.MaxInt, 1, -1}, {0x7fffffffffffff7f, 1, 127}, {-0x100 + 5, 1, 5}, {0x12345678, 2, 0x5678}, {0x1234f678, 2, -0x988},
		{5, 9, 5}, {5, 0, 5}, {255, 0, 255}, {255, -1, 255}, {-1, 9, -1}, {255, 9, 255}, {256, 0, 256}, {255, 16, 255}, {255, 64, 255}, {255, 257, 255}, {255, math.MaxInt, 255}, {255, math.MinInt, 255}, {math.MinInt, 0, math.MinInt}, {math.MaxInt, 9, math.MaxInt},
	}
	for _, row := range rows {
		if got := impl.SignOf(row.n, row.many); got != row.want {
			t.Errorf("SignOf(%d, %d) = %d, want %d", row.n, row.many, got, row.want)
		}
	}
	for _, n := range wideNumbers() {
		for many := 1; many <= 8; many++ {
			want := int(bigNumber(string(lowBytes(n, many).FillBytes(make([]byte, many))), true).Int64())
			if got := impl.SignOf(n, many); got != want {
				t.Errorf("SignOf(%d, %d) = %d, want %d", n, many, got, want)
			}
		}
		for _, many := range []int{0, -1, -8, 9, 10, 63, 64, 65, math.MinInt, math.MaxInt} {
			if got := impl.SignOf(n, many); got != n {
				t.Errorf("SignOf(%d, %d) = %d", n, many, got)
			}
			if got := impl.PutWide(n, many); got != "" {
				t.Errorf("PutWide(%d, %d) = %x", n, many, got)
			}
		}
	}
}

func TestMsgArgumentsAreNotModified(t *testing.T) {
	for why, v := range bothKinds() {
		a := roomy(v)
		before := full(a)
		impl.PutMsg(a)
		impl.MsgSize(a)
		if order(full(a), before) != 0 {
			t.Errorf("%s: modified", why)
		}
	}
}

func TestMsgResultsShareNoMemory(t *testing.T) {
	same := text("same")
	v := roomy(dict(text("key"), list(same, octets("bytes"), same, list(null), list(null)), text(strings.Repeat("other", 10)), tag(1, list(same))))
	s := impl.PutMsg(v)
	checkNewStrings(t, "PutMsg", []string{s}, v)
	checkNewStrings(t, "PutMsg of a text", []string{impl.PutMsg(same)}, same)
	got, _ := impl.GetMsg(s, 0)
	again, _ := impl.GetMsg(s, 0)
	checkNew(t, "GetMsg", got, again)
	checkNew(t, "GetMsg", got, v)
	checkApart(t, "GetMsg", got, s)
	if first, second := impl.PutMsg(v), impl.PutMsg(v); sharesMemory(first, second) {
		t.Error("two results of PutMsg share memory")
	}
	if first, second := impl.PutWide(5, 8), impl.PutWide(5, 8); sharesMemory(first, second) {
		t.Error("two results of PutWide share memory")
	}
}
