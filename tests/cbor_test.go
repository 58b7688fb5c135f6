package tests

import (
	"encoding/binary"
	"encoding/hex"
	"fmt"
	"math"
	"math/rand"
	"runtime/debug"
	"strconv"
	"strings"
	"testing"

	"loop.example/g00421/impl"
)

// The tests of chapter 5 (promise 5). The expected results are written by hand
// or worked out here, item by item, with a stack of what is not complete yet.

func unhex(digits string) string {
	s, err := hex.DecodeString(strings.ReplaceAll(digits, " ", ""))
	if err != nil {
		panic(err)
	}
	return string(s)
}

// wideHead returns a head with its number in the given number of bytes behind
// the first one; 0 stands for within it.
func wideHead(major int, n uint64, width int) string {
	if width == 0 {
		return string([]byte{byte(32*major) + byte(n)})
	}
	low := map[int]byte{1: 24, 2: 25, 4: 26, 8: 27}[width]
	wide := binary.BigEndian.AppendUint64(nil, n)
	return string([]byte{byte(32*major) + low}) + string(wide[8-width:])
}

var headWidths = []int{0, 1, 2, 4, 8}

// leastWidth returns the shortest of the widths that hold n.
func leastWidth(n uint64) int {
	for i, limit := range []uint64{24, 1 << 8, 1 << 16, 1 << 32} {
		if n < limit {
			return headWidths[i]
		}
	}
	return 8
}

// A cborForm writes a value, the heads as its functions say: the width of the
// head with an index, and whether it has an indefinite length.
type cborForm struct {
	out   string
	heads int
	width func(index int, least int) int
	open  func(index int) bool
	cut   func(left int) int
}

func (f *cborForm) putHead(major int, n uint64) {
	f.out += wideHead(major, n, f.width(f.heads, leastWidth(n)))
	f.heads++
}

func (f *cborForm) isOpen(major int) bool {
	if !f.open(f.heads) {
		return false
	}
	f.heads++
	f.out += string([]byte{byte(32*major + 31)})
	return true
}

func (f *cborForm) putString(major int, s string) {
	if !f.isOpen(major) {
		f.putHead(major, uint64(len(s)))
		f.out += s
		return
	}
	parts := strings.Split(s, "")
	if major == 2 {
		parts = nil
		for i := range len(s) {
			parts = append(parts, s[i:i+1])
		}
	}
	for len(parts) > 0 {
		many := f.cut(len(parts))
		chunk := strings.Join(parts[:many], "")
		parts = parts[many:]
		f.putHead(major, uint64(len(chunk)))
		f.out += chunk
	}
	f.out += "\xff"
}

func (f *cborForm) putKids(major int, n int, kids []impl.Value) {
	open := major < 6 && f.isOpen(major)
	if !open {
		f.putHead(major, uint64(n))
	}
	for _, kid := range kids {
		f.putValue(kid)
	}
	if open {
		f.out += "\xff"
	}
}

func (f *cborForm) putValue(v impl.Value) {
	switch v.Kind {
	case impl.VNull, impl.VFalse, impl.VTrue:
		f.putHead(7, []uint64{22, 20, 21}[v.Kind])
	case impl.VInt:
		if v.N < 0 {
			f.putHead(1, ^uint64(v.N))
		} else {
			f.putHead(0, uint64(v.N))
		}
	case impl.VDec:
		f.putKids(6, 4, []impl.Value{list(integer(v.E), integer(v.N))})
	case impl.VText:
		f.putString(3, v.S)
	case impl.VBytes:
		f.putString(2, v.S)
	case impl.VList:
		f.putKids(4, len(v.Kids), v.Kids)
	case impl.VMap:
		f.putKids(5, len(v.Kids)/2, v.Kids)
	case impl.VTag:
		f.putKids(6, v.N, v.Kids)
	}
}

func shortForm() cborForm {
	return cborForm{
		width: func(_ int, least int) int { return least },
		open:  func(int) bool { return false },
		cut:   func(left int) int { return left },
	}
}

// cborOf returns the CBOR form of a value, valid or not, and how many heads it has.
func cborOf(v impl.Value) (string, int) {
	f := shortForm()
	f.putValue(v)
	return f.out, f.heads
}

// cborWith is cborOf with one head in another width, if it fits into that.
func cborWith(v impl.Value, index int, width int) string {
	f := shortForm()
	f.width = func(i int, least int) int {
		if i == index {
			return max(width, least)
		}
		return least
	}
	f.putValue(v)
	return f.out
}

// cborOpened is cborOf with the head with an index of indefinite length, if it
// is that of a list, a map or a string, and all of these if the index is -1.
func cborOpened(v impl.Value, index int, chunk int) string {
	f := shortForm()
	f.open = func(i int) bool { return i == index || index < 0 }
	f.cut = func(left int) int { return min(chunk, left) }
	f.putValue(v)
	return f.out
}

// randomForm is cborOf with any of the heads longer or of indefinite length.
func randomForm(random *rand.Rand, v impl.Value) string {
	f := shortForm()
	f.width = func(_ int, least int) int {
		if random.Intn(3) == 0 {
			return max(least, headWidths[random.Intn(5)])
		}
		return least
	}
	f.open = func(int) bool { return random.Intn(3) == 0 }
	f.cut = func(left int) int { return 1 + random.Intn(left) }
	f.putValue(v)
	return f.out
}

// hasTagFour reports whether a VTag with N 4 is among the nodes of v.
func hasTagFour(v impl.Value) bool {
	for _, kid := range v.Kids {
		if hasTagFour(kid) {
			return true
		}
	}
	return v.Kind == impl.VTag && v.N == 4
}

// A cborItem is a head, in any form, and its length in bytes.
type cborItem struct {
	major int
	n     uint64
	open  bool
	size  int
}

func itemAt(s string, i int) (cborItem, bool) {
	if i < 0 || i >= len(s) {
		return cborItem{}, false
	}
	item := cborItem{major: int(s[i]) / 32, n: uint64(s[i]) % 32, size: 1}
	if item.n < 24 {
		return item, true
	}
	if item.n == 31 {
		return cborItem{major: item.major, open: true, size: 1}, true
	}
	if item.n > 27 {
		return cborItem{}, false
	}
	width := headWidths[item.n-23]
	if len(s)-i <= width {
		return cborItem{}, false
	}
	number, err := strconv.ParseUint(hex.EncodeToString([]byte(s[i+1:i+1+width])), 16, 64)
	item.n, item.size = number, 1+width
	return item, err == nil
}

func (item cborItem) short() bool {
	return !item.open && item.size == 1+leastWidth(item.n)
}

// A cborFrame is a value that is not complete, and how many of its elements are
// missing, or -1 if there is to be a byte 255 behind them.
type cborFrame struct {
	v    impl.Value
	left int
}

// A cborMachine reads items one by one.
type cborMachine struct {
	frames []cborFrame
	loose  bool
}

// cborByHand works out GetCbor, or Loose of what is behind i, by a cborMachine.
func cborByHand(s string, i int, loose bool) (impl.Value, int) {
	m := cborMachine{frames: []cborFrame{{v: list(), left: 1}}, loose: loose}
	for len(m.frames) > 1 || m.frames[0].left > 0 {
		item, found := itemAt(s, i)
		if !found || !loose && !item.short() {
			return impl.Value{}, -1
		}
		i += item.size
		content := ""
		if (item.major == 2 || item.major == 3) && !item.open {
			if item.n > uint64(len(s)-i) {
				return impl.Value{}, -1
			}
			content = s[i : i+int(item.n)]
			i += int(item.n)
		}
		if !m.step(item, content) {
			return impl.Value{}, -1
		}
		m.close()
	}
	v := m.frames[0].v.Kids[0]
	if !impl.ValueOk(v) || hasTagFour(v) {
		return impl.Value{}, -1
	}
	return v, i
}

// step reports whether an item fits.
func (m *cborMachine) step(item cborItem, content string) bool {
	top := &m.frames[len(m.frames)-1]
	if item.major == 7 && item.open {
		fits := top.left < 0 && (top.v.Kind != impl.VMap || len(top.v.Kids)%2 == 0)
		top.left = 0
		return fits
	}
	if top.v.Kind == impl.VText || top.v.Kind == impl.VBytes {
		isText := top.v.Kind == impl.VText
		top.v.S += content
		return !item.open && item.major == map[bool]int{true: 3, false: 2}[isText] && (!isText || impl.TextOk(content))
	}
	return m.begin(item, content)
}

// begin puts the value that an item begins where it belongs.
func (m *cborMachine) begin(item cborItem, content string) bool {
	kinds := []int{impl.VInt, impl.VInt, impl.VBytes, impl.VText, impl.VList, impl.VMap, impl.VTag, 0}
	frame := cborFrame{v: impl.Value{Kind: kinds[item.major], S: content}}
	if item.open {
		frame.left = -1
		m.frames = append(m.frames, frame)
		return item.major >= 2 && item.major <= 5
	}
	switch item.major {
	case 0, 1:
		frame.v.N = int(item.n)
		if item.major == 1 {
			frame.v.N = int(^item.n)
		}
		if item.n >= 1<<63 {
			return false
		}
	case 4, 5, 6:
		// More are never valid.
		if item.major < 6 && item.n > 300 || item.n > 1000000 {
			return false
		}
		frame.left = []int{int(item.n), 2 * int(item.n), 1}[item.major-4]
		if item.major == 6 {
			frame.v.N = int(item.n)
		}
	case 7:
		simple, known := map[uint64]impl.Value{20: no, 21: yes, 22: null, 23: null}[item.n]
		if !known || item.n == 23 && !m.loose {
			return false
		}
		frame.v = simple
	}
	m.frames = append(m.frames, frame)
	return true
}

// close adds what has become complete to what it stands in.
func (m *cborMachine) close() {
	for len(m.frames) > 1 {
		last := len(m.frames) - 1
		frame := m.frames[last]
		if frame.left != 0 {
			return
		}
		v := frame.v
		if v.Kind == impl.VTag && v.N == 4 {
			kid := v.Kids[0]
			if kid.Kind == impl.VList && len(kid.Kids) == 2 && kid.Kids[0].Kind == impl.VInt && kid.Kids[1].Kind == impl.VInt {
				v = decimal(kid.Kids[1].N, kid.Kids[0].N)
			}
		}
		m.frames = m.frames[:last]
		above := &m.frames[last-1]
		above.v.Kids = append(above.v.Kids, v)
		if above.left > 0 {
			above.left--
		}
	}
}

// cborValues are values of every kind, all of which fit.
func cborValues() map[string]impl.Value {
	values := map[string]impl.Value{
		"nested":        list(dict(text("a"), list(integer(1), dict(integer(-2), octets("\x00")))), tag(5, tag(3, list())), text("\n")),
		"299 decimals":  list(repeated(decimal(-15, -20), 299)...),
		"149 text keys": textNumbered(149),
		"a deep VDec":   wrapped(decimal(1, 20), 12),
		"a deep map":    deepMap(decimal(-1, -1), 12),
		"long strings":  list(text(strings.Repeat("\u00e9", 1000)), octets(strings.Repeat("\xc3", 2000))),
		"256 bytes":     octets(strings.Repeat("\x00", 256)),
		"255 bytes":     octets(strings.Repeat("\xff", 255)),
		"a list of 23":  list(repeated(no, 23)...),
		"a list of 24":  list(repeated(no, 24)...),
		"a list of 256": list(repeated(yes, 256)...),
		"a map of 23":   numbered(23),
		"a map of 24":   numbered(24),
		"like a VDec":   tag(5, list(integer(-2), integer(15))),
	}
	for why, v := range validValues() {
		if !hasTagFour(v) {
			values[why] = v
		}
	}
	for i, n := range edgeNumbers() {
		values["integer "+strconv.Itoa(i)] = list(integer(n))
	}
	for i, v := range edgeDecimals() {
		if i%7 == 0 {
			values["number "+strconv.Itoa(i)] = list(v)
		}
	}
	random := rand.New(rand.NewSource(5))
	for i := range 300 {
		if v := randomValue(random, 5, false); !hasTagFour(v) {
			values["random "+strconv.Itoa(i)] = v
		}
	}
	return values
}

// smallCborValues are those of cborValues with a form that is not long.
func smallCborValues() map[string]impl.Value {
	values := cborValues()
	for why, v := range values {
		if s, _ := cborOf(v); len(s) > 120 {
			delete(values, why)
		}
	}
	return values
}

// cborMisfits are values, valid or not, that do not fit.
func cborMisfits() map[string]impl.Value {
	values := invalidValues()
	bad := []impl.Value{
		tag(4, null), tag(4, integer(1)), tag(4, list()), tag(4, list(integer(-1), integer(15))), tag(4, list(integer(1), integer(1))),
		tag(4, decimal(15, -1)), tag(4, tag(4, null)), tag(4, tag(5, null)), tag(5, tag(4, null)), tag(4, dict(integer(1), integer(1))),
		decimal(10, -1), text("\xff"), {Kind: 10}, dict(text("a")), dict(text("a"), null, text("a"), null), tag(-4, null),
	}
	for i, v := range bad {
		for j, with := range placed(v) {
			values[fmt.Sprint("misfit ", i, " at place ", j)] = with
		}
	}
	values["a tag 4 at the deepest level"] = wrapped(tag(4, null), 11)
	return values
}

func checkHead(t *testing.T, s string, i int, wantMajor int, wantN uint64, wantNext int) {
	t.Helper()
	major, n, next := impl.GetHead(s, i)
	if major != wantMajor || n != wantN || next != wantNext {
		t.Errorf("GetHead(%.50x, %d) = %d, %d, %d, want %d, %d, %d", s, i, major, n, next, wantMajor, wantN, wantNext)
	}
}

func TestHeads(t *testing.T) {
	rows := []struct {
		n    uint64
		form string
	}{
		{0, "00"}, {1, "01"}, {22, "16"}, {23, "17"},
		{24, "1818"}, {25, "1819"}, {100, "1864"}, {255, "18ff"},
		{256, "190100"}, {500, "1901f4"}, {65535, "19ffff"},
		{65536, "1a00010000"}, {1000000, "1a000f4240"}, {4294967295, "1affffffff"},
		{4294967296, "1b0000000100000000"}, {1 << 63, "1b8000000000000000"}, {math.MaxUint64, "1bffffffffffffffff"},
		{0x0102030405060708, "1b0102030405060708"}, {0xa1b2c3d4, "1aa1b2c3d4"}, {0xfedc, "19fedc"},
	}
	for _, row := range rows {
		for major := range 8 {
			form := []byte(unhex(row.form))
			form[0] += byte(32 * major)
			s := string(form)
			if got := impl.PutHead(major, row.n); got != s {
				t.Errorf("PutHead(%d, %d) = %x, want %x", major, row.n, got, s)
			}
			checkHead(t, s, 0, major, row.n, len(s))
			checkHead(t, "\xff\x18"+s+"\x00", 2, major, row.n, 2+len(s))
			for i := range len(s) {
				checkHead(t, s[:i], 0, -1, 0, -1)
				checkHead(t, "\x00"+s[:i], 1, -1, 0, -1)
			}
			for _, width := range headWidths {
				if width > leastWidth(row.n) {
					checkHead(t, wideHead(major, row.n, width), 0, -1, 0, -1)
					checkHead(t, "x"+wideHead(major, row.n, width)+"y", 1, -1, 0, -1)
				}
			}
		}
	}
}

func TestPutHeadOfNoMajorType(t *testing.T) {
	for _, major := range []int{-1, 8, -8, 9, 256, 1 << 32, math.MinInt, math.MaxInt} {
		for _, n := range []uint64{0, 23, 24, math.MaxUint64} {
			if got := impl.PutHead(major, n); got != "" {
				t.Errorf("PutHead(%d, %d) = %x", major, n, got)
			}
		}
	}
}

func TestGetHeadAtIndexesOutside(t *testing.T) {
	for _, s := range []string{"", "\x00", "\x18\x18", "\x1b\xff\xff\xff\xff\xff\xff\xff\xff"} {
		for _, i := range []int{-1, -2, len(s), len(s) + 1, len(s) + 100, math.MinInt, math.MaxInt} {
			checkHead(t, s, i, -1, 0, -1)
		}
	}
}

func TestGetHeadOfEveryFirstByte(t *testing.T) {
	tails := []string{"", "\x00", "\x17", "\x18", "\xff", "\x00\x00", "\x00\xff", "\x01\x00", "\x00\x00\xff\xff", "\x00\x01\x00\x00", "\x00\x00\x00\x00\xff\xff\xff\xff", "\x00\x00\x00\x01\x00\x00\x00\x00", "\xff\xff\xff\xff\xff\xff\xff\xff\xff"}
	for first := range 256 {
		for _, tail := range tails {
			s := string([]byte{byte(first)}) + tail
			item, found := itemAt(s, 0)
			if !found || !item.short() {
				checkHead(t, s, 0, -1, 0, -1)
			} else {
				checkHead(t, s, 0, item.major, item.n, item.size)
			}
			if low := first % 32; low >= 28 && found && item.short() {
				t.Errorf("the test takes %d for a head", first)
			}
		}
	}
}

func TestPutCbor(t *testing.T) {
	rows := []struct {
		v    impl.Value
		form string
	}{
		{null, "f6"}, {no, "f4"}, {yes, "f5"},
		{integer(0), "00"}, {integer(1), "01"}, {integer(10), "0a"}, {integer(23), "17"}, {integer(24), "1818"}, {integer(1000), "1903e8"},
		{integer(1000000), "1a000f4240"}, {integer(1000000000000), "1b000000e8d4a51000"}, {integer(math.MaxInt), "1b7fffffffffffffff"},
		{integer(-1), "20"}, {integer(-10), "29"}, {integer(-24), "37"}, {integer(-25), "3818"}, {integer(-100), "3863"}, {integer(-256), "38ff"},
		{integer(-257), "390100"}, {integer(-65537), "3a00010000"}, {integer(math.MinInt), "3b7fffffffffffffff"},
		{decimal(27315, -2), "c48221196ab3"}, {decimal(-27315, -2), "c48221396ab2"}, {decimal(1, 20), "c4821401"}, {decimal(-1, 19), "c4821320"},
		{decimal(1, -20), "c4823301"}, {decimal(999999999999999999, 20), "c482141b0de0b6b3a763ffff"}, {decimal(-999999999999999999, -20), "c482333b0de0b6b3a763fffe"},
		{text(""), "60"}, {text("a"), "6161"}, {text("IETF"), "6449455446"}, {text("\u00fc"), "62c3bc"}, {text("\U00010151"), "64f0908591"},
		{text(strings.Repeat("a", 24)), "7818" + strings.Repeat("61", 24)}, {text(strings.Repeat("a", 2000)), "7907d0" + strings.Repeat("61", 2000)},
		{octets(""), "40"}, {octets("\x01\x02\x03\x04"), "4401020304"}, {octets("\xff"), "41ff"}, {octets(strings.Repeat("\x00", 23)), "57" + strings.Repeat("00", 23)},
		{octets(strings.Repeat("\x00", 256)), "590100" + strings.Repeat("00", 256)},
		{list(), "80"}, {list(integer(1), integer(2), integer(3)), "83010203"}, {list(integer(1), list(integer(2), integer(3)), list(integer(4), integer(5))), "8301820203820405"},
		{list(list(), dict(), list(list())), "8380a08180"}, {list(repeated(null, 25)...), "9819" + strings.Repeat("f6", 25)}, {list(repeated(no, 299)...), "99012b" + strings.Repeat("f4", 299)},
		{dict(), "a0"}, {dict(integer(1), integer(2), integer(3), integer(4)), "a201020304"}, {dict(text("b"), integer(1), text("a"), list(integer(2), integer(3))), "a2616201616182 0203"},
		{dict(text("a"), dict(integer(-1), dict())), "a16161a120a0"},
		{tag(0, text("a")), "c06161"}, {tag(1, integer(1363896240)), "c11a514b67b0"}, {tag(23, octets("\x01")), "d74101"}, {tag(24, null), "d818f6"},
		{tag(3, null), "c3f6"}, {tag(5, list(integer(1), integer(1))), "c5820101"}, {tag(1000000, no), "da000f4240f4"}, {tag(1, tag(2, tag(3, null))), "c1c2c3f6"},
		{list(decimal(15, -1), dict(text("a"), decimal(-25, -2))), "82c482200fa16161c4822138 18"},
	}
	for _, row := range rows {
		form := unhex(row.form)
		if got := impl.PutCbor(row.v); got != form {
			t.Errorf("PutCbor = %.100x, want %.100x", got, form)
		}
		if got := impl.CborSize(row.v); got != len(form) {
			t.Errorf("CborSize = %d, want %d", got, len(form))
		}
		if got, next := impl.GetCbor(form, 0); next != len(form) || order(got, row.v) != 0 {
			t.Errorf("GetCbor(%.100x) = %s, %d", form, shortened(got), next)
		}
		if got, ok := impl.Loose(form); !ok || order(got, row.v) != 0 {
			t.Errorf("Loose(%.100x) = %s, %v", form, shortened(got), ok)
		}
	}
}

func TestCborFitsAndSize(t *testing.T) {
	for why, v := range cborValues() {
		form, _ := cborOf(v)
		if got := impl.PutCbor(v); got != form {
			t.Errorf("%s: PutCbor = %.100x, want %.100x", why, got, form)
		}
		if !impl.CborFits(v) || impl.CborSize(v) != len(form) {
			t.Errorf("%s: CborFits = %v, CborSize = %d, want %d", why, impl.CborFits(v), impl.CborSize(v), len(form))
		}
	}
	for why, v := range cborMisfits() {
		if impl.CborFits(v) || impl.PutCbor(v) != "" || impl.CborSize(v) != 0 {
			t.Errorf("%s: CborFits = %v, PutCbor = %.100x, CborSize = %d", why, impl.CborFits(v), impl.PutCbor(v), impl.CborSize(v))
		}
	}
}

// checkCbor fails if GetCbor is not v and next.
func checkCbor(t *testing.T, why string, s string, i int, v impl.Value, next int) {
	t.Helper()
	got, gotNext := impl.GetCbor(s, i)
	if gotNext != next || order(got, v) != 0 {
		t.Errorf("%s: GetCbor(%.100x, %d) = %s, %d, want %s, %d", why, s, i, shortened(got), gotNext, shortened(v), next)
	}
}

func checkNoCbor(t *testing.T, why string, s string, i int) {
	t.Helper()
	checkCbor(t, why, s, i, impl.Value{}, -1)
}

// checkLoose fails if Loose is not v, or not false if v is nil.
func checkLoose(t *testing.T, why string, s string, v *impl.Value) {
	t.Helper()
	got, ok := impl.Loose(s)
	if v == nil {
		if ok || order(got, impl.Value{}) != 0 {
			t.Errorf("%s: Loose(%.100x) = %s, %v", why, s, shortened(got), ok)
		}
		return
	}
	if !ok || order(got, *v) != 0 {
		t.Errorf("%s: Loose(%.100x) = %s, %v, want %s", why, s, shortened(got), ok, shortened(*v))
	}
}

func TestValuesAreRecoveredFromCbor(t *testing.T) {
	for why, v := range cborValues() {
		s := impl.PutCbor(v)
		checkCbor(t, why, s, 0, v, len(s))
		checkCbor(t, why, "\x81\xff"+s, 2, v, 2+len(s))
		checkCbor(t, why, "\x18"+s+s+"\x00", 1, v, 1+len(s))
		checkCbor(t, why, s+s, len(s), v, 2*len(s))
		if len(s) <= 4000 {
			checkLoose(t, why, s, &v)
		}
		for i := range len(s) {
			checkNoCbor(t, why+", cut", s[:i], 0)
			checkLoose(t, why+", cut", s[:i], nil)
		}
		checkLoose(t, why+", twice", s+s, nil)
		checkLoose(t, why+", with a byte behind", s+"\x00", nil)
		checkLoose(t, why+", with an end behind", s+"\xff", nil)
	}
}

func TestGetCborAtIndexesOutside(t *testing.T) {
	for _, s := range []string{"", "\x00", "\x82\x01\x02", strings.Repeat("\x00", 50)} {
		for _, i := range []int{-1, -2, -len(s), len(s), len(s) + 1, len(s) + 100, math.MinInt, math.MaxInt} {
			if i != 0 || s == "" {
				checkNoCbor(t, "outside", s, i)
			}
		}
	}
}

func TestLongHeadsAndIndefiniteLengths(t *testing.T) {
	random := rand.New(rand.NewSource(6))
	for why, v := range smallCborValues() {
		s, heads := cborOf(v)
		for index := range heads {
			for _, width := range headWidths {
				long := cborWith(v, index, width)
				if long == s {
					continue
				}
				checkNoCbor(t, fmt.Sprint(why, ", head ", index, " with ", width), long, 0)
				checkNoCbor(t, fmt.Sprint(why, ", head ", index, " with ", width), "\x00"+long+"\x00", 1)
				checkLoose(t, why+", long", long, &v)
			}
			if open := cborOpened(v, index, 1); open != s {
				checkNoCbor(t, fmt.Sprint(why, ", head ", index, " open"), open, 0)
				checkLoose(t, why+", open", open, &v)
				checkLoose(t, why+", open without an end", open[:len(open)-1], nil)
			}
		}
		for chunk := 1; chunk < 4; chunk++ {
			checkLoose(t, why+", all open", cborOpened(v, -1, chunk), &v)
		}
		for range 10 {
			checkLoose(t, why+", at random", randomForm(random, v), &v)
		}
	}
}

// checkBoth fails if GetCbor or Loose of s is not what a cborMachine makes of it.
func checkBoth(t *testing.T, s string) {
	t.Helper()
	want, wantNext := cborByHand(s, 0, false)
	got, next := impl.GetCbor(s, 0)
	if next != wantNext || order(got, want) != 0 {
		t.Fatalf("GetCbor(%.100x) = %s, %d, want %s, %d", s, shortened(got), next, shortened(want), wantNext)
	}
	if next >= 0 && impl.PutCbor(got) != s[:next] {
		t.Fatalf("GetCbor(%.100x) accepts other bytes than PutCbor's", s)
	}
	want, wantNext = cborByHand(s, 0, true)
	wantOk := wantNext == len(s) && len(s) <= 4000
	if !wantOk {
		want = impl.Value{}
	}
	got, ok := impl.Loose(s)
	if ok != wantOk || order(got, want) != 0 {
		t.Fatalf("Loose(%.100x) = %s, %v, want %s, %v", s, shortened(got), ok, shortened(want), wantOk)
	}
	if ok && (!impl.ValueOk(got) || !impl.CborFits(got)) {
		t.Fatalf("Loose(%.100x) is invalid", s)
	}
}

const most = "ffffffffffffffff"

// What no form of CBOR permits.
var cborRejects = map[string]string{
	"a number that is cut short":     "18 19 1901 1a 1a010000 1b 1b01000000000000 38 39ff 3a 3b 58 78 98 b8 d8 f8 f9 f900 fa fb00",
	"a reserved head":                "1c 1d 1e 3c 3d 3e 5c 5d 5e 7c 7d 7e 9c 9d 9e bc bd be dc dd de fc fd fe 811c 811d a1011c c11d",
	"an indefinite head of none":     "1f 1f00 1fff 3f 3f00 3fff df dff6 dff6ff df01f6 ff 81ff 8201ff a1ff a101ff c1ff 9f1fff 9fdff6ff",
	"an integer beyond 64 bits":      "1b8000000000000000 3b8000000000000000 1b" + most + " 3b" + most + " 811b8000000000000000 c11b8000000000000000 a11b800000000000000001 c4821b800000000000000001 c482203b8000000000000000",
	"a string beyond the end":        "41 420a 5818 590100 5a00010000 5b" + most + " 5b8000000000000000 5b7fffffffffffffff 61 6261 7818 79ffff61 7affffffff 7b" + most + "61 7b800000000000000061 7b7fffffffffffffff61 8141 a161 a16141",
	"a list beyond the end":          "81 8201 8181 9818 990100 9affffffff 9b" + most + " 9b" + most + "01 9b8000000000000000 9b7fffffffffffffff 9b0000000100000000 9b000000010000000000",
	"a map beyond the end":           "a1 a101 a20101 a2010102 b818 b90100 baffffffff ba80000000 bb" + most + " bb8000000000000000 bb80000000000000010101 bb7fffffffffffffff bb4000000000000000 bb0000000100000000",
	"a tag without an element":       "c1 c4 c5 d818 da000f4240 c1c2 81c1 a101c1",
	"a tag that is too great":        "da000f4241f6 daffffffff00 db0000000100000000f6 db0000000100000001f6 db000000010000000482200f db8000000000000000f6 db" + most + "f6 81da000f4241f6",
	"a tag 4 of no pair":             "c4f6 c401 c420 c480 c48120 c4820a c48320000f c483010203 c4f4 c440 c46161 c4a0 c4a10101 c4a1200f c4a201010202 c4c482200f c5c401 c4c582200f 81c401 a101c480 c1c4f6 c4c482200f",
	"a tag 4 without two integers":   "c482006101 c48220f6 c482f60f c482206161 c48261610f c48241200f c482800f c4822080 c482c482200f01 c48220c482200f c48220c10f",
	"a tag 4 of no VDec":             "c4820001 c482000f c4820000 c4820100 c4822000 c482200a c4822029 c482201864 c4823401 c4821501 c4820101 c4820a01 c4821209 c4821228 c482201b0de0b6b3a7640001 c482203b0de0b6b3a7640000 c4821b7fffffffffffffff01 c4823b7fffffffffffffff01 c482201b7fffffffffffffff c482203b7fffffffffffffff 81c4820001",
	"a text that is none":            "61ff 61c3 6180 62c328 63eda080 62c080 64f4908080 6361c328 8161ff a161ff01 a10161ff c161ff",
	"a key that occurs twice":        "a201010102 a2616101616102 a260f660f6 a220012002 a3010102020103 a3616101016161616102 81a201010102 a101a201010102 c1a201010102",
	"a key of another kind":          "a1f601 a1f401 a1f501 a14001 a1416101 a18001 a1a001 a1c10101 a1c482200f01 a20101f602 81a1f601",
	"another number of major type 7": "e0 e1 f0 f3 f818 f81f f820 f8ff f90000 f93c00 f97e00 fa00000000 fa47c35000 fb3ff199999999999a 81e0 a101e0 c1e0",
}

// What Loose alone accepts.
var cborLonger = map[string]string{
	"a longer head":            "1800 1817 190000 1900ff 1a00000000 1a0000ffff 1b0000000000000000 1b00000000ffffffff 3800 390017 5800 580161 7800 780161 9800 980101 b800 b8010101 d801f6 f814 f815 f816 f90014 fa00000016 fb0000000000000016",
	"a longer head within":     "811801 82001800 a1180101 a1011801 c11801 a178016101 d80482200f c49802200f c48238000f c48220180f",
	"an indefinite length":     "5fff 7fff 9fff bfff 9f01ff bf6161f6ff 5f4101ff 7f6161ff 819fff a101bfff c19fff c49f200fff",
	"undefined as null":        "f7 81f7 a101f7 c1f7 f817 f90017 9ff7ff",
	"integers of longer heads": "3b0000000000000000 1b000000000000001b 39001b",
}

func TestGetCborRejects(t *testing.T) {
	for why, forms := range cborRejects {
		for form := range strings.SplitSeq(forms, " ") {
			s := unhex(form)
			checkNoCbor(t, why, s, 0)
			checkNoCbor(t, why, "\x01"+s, 1)
			checkNoCbor(t, why+", within a list", "\x81"+s, 0)
			checkLoose(t, why, s, nil)
			checkLoose(t, why+", within a list", "\x81"+s, nil)
			checkLoose(t, why+", within an open list", "\x9f"+s+"\xff", nil)
			checkLoose(t, why+", as a value", "\xbf\x01"+s+"\xff", nil)
			checkBoth(t, s)
		}
	}
	for why, forms := range cborLonger {
		for form := range strings.SplitSeq(forms, " ") {
			s := unhex(form)
			checkNoCbor(t, why, s, 0)
			checkNoCbor(t, why, "\x01"+s, 1)
			checkNoCbor(t, why+", within a list", "\x81"+s, 0)
			if _, ok := impl.Loose(s); !ok {
				t.Errorf("%s: Loose rejects %x", why, s)
			}
			checkBoth(t, s)
		}
	}
	checkNoCbor(t, "nothing", "", 0)
	checkLoose(t, "nothing", "", nil)
}

func TestLoose(t *testing.T) {
	rows := []struct {
		form string
		want impl.Value
	}{
		{"1800", integer(0)}, {"1b0000000000000005", integer(5)}, {"3900ff", integer(-256)}, {"3b0000000000000000", integer(-1)},
		{"f7", null}, {"f817", null}, {"f816", null}, {"f814", no}, {"f90015", yes}, {"82f7f6", list(null, null)},
		{"58020102", octets("\x01\x02")}, {"79000161", text("a")}, {"9b0000000000000001f6", list(null)}, {"b900016161f5", dict(text("a"), yes)},
		{"d80582200f", tag(5, list(integer(-1), integer(15)))}, {"da00000005f6", tag(5, null)},
		{"d80482200f", decimal(15, -1)}, {"c49802200f", decimal(15, -1)}, {"c48238000f", decimal(15, -1)}, {"c49f20190fffff", decimal(4095, -1)}, {"db00000000000000049f1b000000000000001338ffff", decimal(-256, 19)},
		{"9fff", list()}, {"bfff", dict()}, {"5fff", octets("")}, {"7fff", text("")},
		{"9f01820203 9f0405ffff", list(integer(1), list(integer(2), integer(3)), list(integer(4), integer(5)))},
		{"829f0102ff 03", list(list(integer(1), integer(2)), integer(3))},
		{"9f9f9fffffff", list(list(list()))}, {"9fbfffbf019fffffff", list(dict(), dict(integer(1), list()))},
		{"bf61610161629f0203ffff", dict(text("a"), integer(1), text("b"), list(integer(2), integer(3)))},
		{"bf01bf02bfffffff", dict(integer(1), dict(integer(2), dict()))}, {"a17f6161ff01", dict(text("a"), integer(1))}, {"bf7f616161 62ff017f6162ff02ff", dict(text("ab"), integer(1), text("b"), integer(2))},
		{"5f42010243030405ff", octets("\x01\x02\x03\x04\x05")}, {"5f4040ff", octets("")}, {"5f5801ff58010aff", octets("\xff\x0a")},
		{"7f657374726561646d696e67ff", text("streaming")}, {"7f6062c3bc60ff", text("\u00fc")}, {"7f780161ff", text("a")},
		{"c15f4101ff", tag(1, octets("\x01"))}, {"c19f01ff", tag(1, list(integer(1)))},
	}
	for _, row := range rows {
		s := unhex(row.form)
		checkLoose(t, row.form, s, &row.want)
		checkNoCbor(t, row.form, s, 0)
		checkBoth(t, s)
		checkLoose(t, row.form+" and a byte", s+"\x00", nil)
		checkLoose(t, row.form+" and an end", s+"\xff", nil)
		for i := range len(s) {
			checkLoose(t, row.form+", cut", s[:i], nil)
		}
	}
}

func TestLooseRejects(t *testing.T) {
	rows := map[string]string{
		"no end":                        "9f 9f01 9f9fff bf bf01 bf0102 5f 5f41 5f4101 7f 7f6161 819f bf019fff a15fff01",
		"chunks of another major type":  "5f6161ff 7f4161ff 5f01ff 7f00ff 5f80ff 7fa0ff 5ff6ff 7ff6ff 5f41016161ff 7f61614161ff 5fc14101ff",
		"chunks of indefinite length":   "5f5fffff 7f7fffff 5f5f4101ffff 7f7f6161ffff 5f41015f4102ffff 5f7fffff 7f5fffff 5f9fffff 7fbfffff",
		"a code point in two chunks":    "7f61c361bcff 7f61c361bc61ff 7f6261c361bcff 7f63f09f986180ff 7f61ffff",
		"an end instead of an element":  "81ff 8201ff ff 9f81ffff 9fc1ffff c1ff c4ff d801ff 8181ff",
		"an end instead of a value":     "bf01ff bf010203ff bf6161ff a101ff a2010203ff bf01bf02ffff 9fbf01ffff",
		"an end instead of a key":       "a1ff a1ff01 a20102ff",
		"an end within a chunk's place": "5f41ff 7f61ff",
		"a key twice, in two forms":     "bf6161017f6161ff02ff a20101180102 bf01f61a00000001f6ff bf60f67ffff6ff",
		"a key of another kind":         "bff601ff bf5fff01ff bf9fff01ff a15f4101ff01",
		"no pair":                       "c49fff c49f20ff c49f200f00ff c4bf200fff c45f200fff c49f2018",
		"no VDec":                       "c49f0001ff c48220180a d80482200a c49f3401ff",
		"a tag 4":                       "d804f6 d80401 c4f7 81d90004f6",
		"no text":                       "7801ff 7f61c3ff 9f61ffff",
		"a number that is no null":      "f818 f813 f90018 f800 f8ff",
	}
	for why, forms := range rows {
		for form := range strings.SplitSeq(forms, " ") {
			s := unhex(form)
			checkLoose(t, why, s, nil)
			checkNoCbor(t, why, s, 0)
			checkBoth(t, s)
		}
	}
}

// sized returns a value, and its form, which has the given number of bytes.
func sized(t *testing.T, many int) (impl.Value, string) {
	t.Helper()
	v := list(octets(strings.Repeat("a", 2000)), octets(strings.Repeat("b", many-2000-1-3-3)))
	s, _ := cborOf(v)
	if len(s) != many {
		t.Fatal(len(s))
	}
	return v, s
}

func TestLooseOfLongStrings(t *testing.T) {
	for _, many := range []int{3998, 3999, 4000} {
		v, s := sized(t, many)
		checkLoose(t, strconv.Itoa(many), s, &v)
	}
	v, s := sized(t, 4001)
	checkLoose(t, "4001 bytes", s, nil)
	checkCbor(t, "4001 bytes", s, 0, v, 4001)
	v, _ = sized(t, 3999)
	for width, want := range map[int]*impl.Value{0: &v, 1: &v, 2: nil, 4: nil, 8: nil} {
		long := cborWith(v, 0, width)
		checkLoose(t, fmt.Sprint(len(long), " bytes"), long, want)
	}
	empty := octets("")
	checkLoose(t, "3998 chunks", "\x5f"+strings.Repeat("\x40", 3998)+"\xff", &empty)
	checkLoose(t, "3999 chunks", "\x5f"+strings.Repeat("\x40", 3999)+"\xff", nil)
	bytes := octets(strings.Repeat("a", 1999))
	checkLoose(t, "1999 chunks", "\x5f"+strings.Repeat("\x41a", 1999)+"\xff", &bytes)
	long := text(strings.Repeat("ab", 1000))
	checkLoose(t, "chunks of MaxBytes", "\x7f"+strings.Repeat("\x62ab", 1000)+"\xff", &long)
	checkLoose(t, "chunks of more", "\x7f"+strings.Repeat("\x62ab", 1000)+"\x61a\xff", nil)
	checkLoose(t, "a string of more", impl.PutHead(2, 2001)+strings.Repeat("a", 2001), nil)
}

func TestCborAtTheLimitsOfValues(t *testing.T) {
	for why, v := range validValues() {
		s, _ := cborOf(v)
		if hasTagFour(v) {
			checkNoCbor(t, why, s, 0)
			continue
		}
		checkCbor(t, why, s, 0, v, len(s))
		if open := cborOpened(v, -1, 100); len(open) <= 4000 {
			checkLoose(t, why, open, &v)
		}
	}
	for why, v := range invalidValues() {
		if !writable(v) {
			continue
		}
		s, _ := cborOf(v)
		checkNoCbor(t, why, s, 0)
		checkNoCbor(t, why, "\x00"+s+"\x00", 1)
		checkLoose(t, why, s, nil)
		checkLoose(t, why, cborOpened(v, -1, 100), nil)
	}
	v := wrapped(decimal(1, 20), 13)
	s, _ := cborOf(v)
	checkNoCbor(t, "a VDec too deep", s, 0)
	s, _ = cborOf(list(repeated(decimal(1, 20), 300)...))
	checkNoCbor(t, "too many VDecs", s, 0)
}

// writable reports whether v, which is invalid, is the only value that its form
// could stand for: all fields are written, and every map has whole pairs.
func writable(v impl.Value) bool {
	for _, kid := range v.Kids {
		if !writable(kid) {
			return false
		}
	}
	bare := impl.Value{Kind: v.Kind, Kids: v.Kids}
	switch v.Kind {
	case impl.VInt:
		bare.N, bare.Kids = v.N, nil
	case impl.VDec:
		bare.N, bare.E, bare.Kids = v.N, v.E, nil
	case impl.VText, impl.VBytes:
		bare.S, bare.Kids = v.S, nil
	case impl.VList:
	case impl.VMap:
		return order(bare, v) == 0 && len(v.Kids)%2 == 0
	case impl.VTag:
		bare.N = v.N
		return order(bare, v) == 0 && len(v.Kids) == 1
	case impl.VNull, impl.VFalse, impl.VTrue:
		bare.Kids = nil
	default:
		return false
	}
	return order(bare, v) == 0
}

func TestCborOfManyLevelsAndElements(t *testing.T) {
	defer debug.SetMaxStack(debug.SetMaxStack(4 << 20))
	for _, piece := range []string{"\x81", "\xa1\x01", "\xc1", "\xc4", "\xc4\x82", "\xc4\x82\x20", "\x9f", "\xbf\x01", "\x82\x01"} {
		s := strings.Repeat(piece, 1000000/len(piece))
		checkNoCbor(t, "many levels", s, 0)
		checkNoCbor(t, "many levels", s+"\xf6", 0)
		checkLoose(t, "many levels", s[:4000], nil)
		checkLoose(t, "many levels with an end", s[:3999]+"\xff", nil)
		checkLoose(t, "many levels with many ends", s[:2000]+strings.Repeat("\xff", 2000), nil)
	}
	nulls := strings.Repeat("\xf6", 1000000)
	for _, many := range []uint64{300, 301, 1000, 999999, 1000000, 1 << 32} {
		checkNoCbor(t, "many elements", impl.PutHead(4, many)+nulls, 0)
		checkNoCbor(t, "many pairs", impl.PutHead(5, many)+nulls, 0)
		checkNoCbor(t, "many lists", strings.Repeat(impl.PutHead(4, many), 12)+nulls, 0)
		checkNoCbor(t, "a long string", impl.PutHead(2, 2000+many)+nulls, 0)
	}
	for _, deep := range []impl.Value{wrapped(text("a"), 200000), endlessMap()} {
		if impl.CborFits(deep) || impl.PutCbor(deep) != "" || impl.CborSize(deep) != 0 {
			t.Error("a value without an end")
		}
	}
}

// endlessMap returns a value that contains itself.
func endlessMap() impl.Value {
	kids := repeated(text("k"), 2)
	kids[1] = dict(kids...)
	kids[1].Kids = kids
	return dict(kids...)
}

func TestCborOfEveryTwoBytes(t *testing.T) {
	for first := range 256 {
		checkBoth(t, string([]byte{byte(first)}))
		for second := range 256 {
			checkBoth(t, string([]byte{byte(first), byte(second)}))
			checkBoth(t, string([]byte{0x81, byte(first), byte(second)}))
			checkBoth(t, string([]byte{0xbf, byte(first), byte(second), 0xff}))
			checkBoth(t, string([]byte{0xc4, 0x82, byte(first), byte(second)}))
		}
	}
}

func TestCborOfPiecesInEveryOrder(t *testing.T) {
	pieces := []string{"\x01", "\x20", "\x18\x01", "\x61a", "\x41a", "\x60", "\x81", "\x82", "\xa1", "\xc1", "\xc4", "\xf7", "\x9f", "\xbf", "\x5f", "\x7f", "\xff"}
	var walk func(s string, left int)
	walk = func(s string, left int) {
		checkBoth(t, s)
		if left == 0 {
			return
		}
		for _, piece := range pieces {
			walk(s+piece, left-1)
		}
	}
	walk("", 4)
	pieces = []string{"\x01", "\x82", "\xa1", "\xc4", "\x9f", "\xbf", "\xff"}
	walk("", 6)
}

func TestCborOfChangedBytes(t *testing.T) {
	random := rand.New(rand.NewSource(7))
	bytes := "\x00\x01\x17\x18\x19\x1a\x1b\x1c\x1f\x20\x38\x40\x41\x5f\x60\x61\x7f\x80\x81\x98\x9f\xa0\xa1\xbf\xc1\xc4\xd8\xf4\xf6\xf7\xf8\xfb\xff"
	for _, v := range smallCborValues() {
		short, _ := cborOf(v)
		for _, s := range []string{short, randomForm(random, v)} {
			for i := range len(s) {
				checkBoth(t, s[:i]+s[i+1:])
				other := string(bytes[random.Intn(len(bytes))])
				for _, b := range []string{other, string([]byte{s[i] ^ 1}), string([]byte{s[i] ^ 32}), string([]byte{s[i] + 1})} {
					checkBoth(t, s[:i]+b+s[i+1:])
				}
				checkBoth(t, s[:i]+other+s[i:])
			}
		}
	}
}

func TestCborArgumentsAreNotModified(t *testing.T) {
	for why, v := range bothKinds() {
		a := roomy(v)
		before := full(a)
		impl.CborFits(a)
		impl.PutCbor(a)
		impl.CborSize(a)
		if order(full(a), before) != 0 {
			t.Errorf("%s: modified", why)
		}
	}
}

func TestCborResultsShareNoMemory(t *testing.T) {
	same := text("same")
	v := roomy(dict(text("key"), list(same, octets("bytes"), same, list(null), list(null)), text("other"), tag(1, list(same))))
	s := impl.PutCbor(v)
	checkNewStrings(t, "PutCbor", []string{s}, v)
	checkNewStrings(t, "PutCbor of a text", []string{impl.PutCbor(same)}, same)
	got, _ := impl.GetCbor(s, 0)
	loose, _ := impl.Loose(s)
	open := cborOpened(v, -1, 5)
	opened, _ := impl.Loose(open)
	checkNew(t, "GetCbor and Loose", got, loose)
	checkNew(t, "Loose", loose, opened)
	for _, v := range []impl.Value{got, loose, opened} {
		checkApart(t, "GetCbor and Loose", v, s)
		checkApart(t, "GetCbor and Loose", v, open)
	}
}
