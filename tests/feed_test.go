package tests

import (
	"fmt"
	"math"
	"math/rand"
	"slices"
	"strings"
	"testing"

	"loop.example/g00421/impl"
)

// The tests of chapter 7 (promise 7). The expected results are written by hand
// or worked out here: by a list of how many elements are missing on each level,
// and, for the values, by the machine of chapter 5's tests.

// What the heads of a string show.
const (
	cutShort = "cut short"
	complete = "complete"
	wrong    = "wrong"
)

// The numbers that may stand in a head of each major type.
var numberLimits = [8][2]uint64{
	{0, 9223372036854775807}, {0, 9223372036854775807}, {0, 2000}, {0, 2000}, {0, 300}, {0, 300}, {0, 1000000}, {20, 22},
}

// headsByHand tells what the heads of the first value of s show, and the index
// after it if it is complete.
func headsByHand(s string) (string, int) {
	missing := []int{1}
	i := 0
	for heads := 1; ; heads++ {
		for missing[len(missing)-1] == 0 {
			missing = missing[:len(missing)-1]
			if len(missing) == 0 {
				return complete, i
			}
		}
		if heads > 1204 || len(missing)-1 > 14 {
			return wrong, -1
		}
		if i == len(s) {
			return cutShort, -1
		}
		item, found := itemAt(s, i)
		if !found && s[i]%32 < 28 {
			return cutShort, -1
		}
		if !found || !item.short() || item.n < numberLimits[item.major][0] || item.n > numberLimits[item.major][1] {
			return wrong, -1
		}
		missing[len(missing)-1]--
		i += item.size
		switch item.major {
		case 2, 3:
			if i += int(item.n); i > len(s) {
				return cutShort, -1
			}
		case 4, 5, 6:
			missing = append(missing, []int{int(item.n), 2 * int(item.n), 1}[item.major-4])
		}
	}
}

// beginsByHand works out Begins.
func beginsByHand(s string) bool {
	state, end := headsByHand(s)
	return state == cutShort || state == complete && end == len(s)
}

func feedOkByHand(f impl.Feed) bool {
	return len(f.Rest) <= 4000 && f.Many >= 0 && f.Many <= 1000000000 && !(f.Bad && f.Rest != "")
}

// pushByHand works out Push.
func pushByHand(f impl.Feed, piece string) (impl.Feed, []impl.Value) {
	values := []impl.Value{}
	if !feedOkByHand(f) || f.Bad {
		return f, values
	}
	f.Rest += piece
	for f.Many < 1000000000 {
		v, next := cborByHand(f.Rest, 0, false)
		if next < 0 {
			break
		}
		values = append(values, v)
		f.Rest = f.Rest[next:]
		f.Many++
	}
	if state, _ := headsByHand(f.Rest); state != cutShort || len(f.Rest) > 4000 {
		f.Rest, f.Bad = "", true
	}
	return f, values
}

// filled returns a string of the given length with all bytes in it.
func filled(many int) string {
	s := []byte{}
	for i := range many {
		s = append(s, byte(255-i))
	}
	return string(s)
}

func invalidFeeds() []impl.Feed {
	return []impl.Feed{
		{Rest: filled(4001)}, {Rest: strings.Repeat("\x18", 4001)}, {Rest: strings.Repeat("\x00", 100000)}, {Rest: filled(4001), Bad: true},
		{Many: -1}, {Many: 1000000001}, {Many: math.MinInt}, {Many: math.MaxInt}, {Rest: "\x18", Many: -1}, {Many: -1, Bad: true}, {Many: 1000000001, Bad: true},
		{Rest: "a", Bad: true}, {Rest: "\x18", Bad: true}, {Rest: "\x00", Many: 1, Bad: true}, {Rest: filled(4000), Bad: true},
	}
}

func TestFeedOkAndDone(t *testing.T) {
	if impl.MaxRest != 4000 {
		t.Error("MaxRest", impl.MaxRest)
	}
	rows := []struct {
		f    impl.Feed
		done bool
	}{
		{impl.Feed{}, true}, {impl.Feed{Many: 1}, true}, {impl.Feed{Many: 999999999}, true}, {impl.Feed{Many: 1000000000}, true},
		{impl.Feed{Bad: true}, false}, {impl.Feed{Many: 1000000000, Bad: true}, false},
		{impl.Feed{Rest: "\x18"}, false}, {impl.Feed{Rest: "\x00"}, false}, {impl.Feed{Rest: "\xff"}, false}, {impl.Feed{Rest: " ", Many: 1000000000}, false},
		{impl.Feed{Rest: filled(3999)}, false}, {impl.Feed{Rest: filled(4000)}, false}, {impl.Feed{Rest: strings.Repeat("\x18", 4000)}, false},
	}
	for _, row := range rows {
		if !impl.FeedOk(row.f) || impl.Done(row.f) != row.done {
			t.Errorf("%.50q: FeedOk = %v, Done = %v", fmt.Sprint(row.f), impl.FeedOk(row.f), impl.Done(row.f))
		}
	}
	for _, f := range invalidFeeds() {
		if impl.FeedOk(f) || impl.Done(f) {
			t.Errorf("%.50q: FeedOk = %v, Done = %v", fmt.Sprint(f), impl.FeedOk(f), impl.Done(f))
		}
	}
}

func checkBegins(t *testing.T, why string, s string, want bool) {
	t.Helper()
	if got := impl.Begins(s); got != want {
		t.Fatalf("%s: Begins(%.100x) = %v", why, s, got)
	}
	if beginsByHand(s) != want {
		t.Fatalf("%s: the test's own Begins(%.100x) is not %v", why, s, want)
	}
}

// checkBeginsByHand fails if Begins is not what headsByHand tells.
func checkBeginsByHand(t *testing.T, s string) {
	t.Helper()
	checkBegins(t, "by hand", s, beginsByHand(s))
}

// What begins a value, and is not complete.
var incompletes = map[string]string{
	"a head that is cut off":             "18 38 58 78 98 b8 d8 f8 19 1901 1a 1a00 1a000100 1b 1b7f 1b7fffffffffffff 3903 3b7fffffffffffff 59 5907 7907 9901 b901 da da000f42",
	"a head cut off behind any bytes":    "1900 1a0000 1a000000 1b00 1b00000000000000 1b80 1bffffffffffffff 3bff 5900 59ff 5affffff 5bff 79ff 9900 99ff 9bffffff b9ff bbffffffffffffff d900 daff dbffffff f9 f900 fa fb fbffffffffffffff",
	"a head that is cut off within":      "8118 820119 82011901 a118 a10118 a1611a c118 c11b7fffff 8181c118 82616118 824161d8",
	"a string with less than announced":  "41 4200 42ff 43ffff 5818 581800 590100 5907d000 61 6261 62c3 62ff 7818 781861 7907d0 790100616161 8161 a162 a16161 a1016261 c161",
	"a list with less than announced":    "81 82 8201 830102 8280 9818 9818f6 99012c 99012cf6 8181 828101 82810182",
	"a map with less than announced":     "a1 a101 a201 a20102 a2010203 b818 b8180102 b9012c b9012c0102 a1a1 a1a101 a1a10102 81a1 81a101 c1a1 a101a1",
	"a tag with less than announced":     "c0 c1 c4 d7 d818 d8ff d9ffff da000f4240 c1c1 81c1 82c101 a1c1 a1c101 a101c4 c482 c48220 d9010081",
	"contents that are not examined yet": "8261ff 8262c328 a1f6 a180 a2010201 a2f6f6f6 c48200 c4c4 c481 82a201010102 82c401 82c4820001 82a1f601 a201f601 a161ff",
}

// What is complete as far as its heads show, and a value.
const wholes = "00 17 1818 18ff 190100 1a00010000 1b0000000100000000 1b7fffffffffffffff 20 3818 3b7fffffffffffffff 40 41ff 60 6161 62c3bc 80 8101 820102 a0 a10102 a2010202f6 a16161a0 c1f6 c0a0 d818f6 da000f4240f6 c482200f c4821401 f4 f5 f6 818180 826161a0"

// What is complete as far as its heads show, and no value.
const hollows = "61ff 62c328 62ffff 8161ff 8261ff01 a161ff01 a201010102 a2616101616102 82a20101010200 a1f601 a18001 a1a001 a1c10101 a14001 a3010102020103 c401 c4f6 c480 c48120 c4830a0b0c c482f60f c4820001 c4820000 c482200a c4821209 c4823401 c4821501 c482201b7fffffffffffffff c4c482200f c1c401 81c480 a101c4f6"

// What no value begins with.
var wrongs = map[string]string{
	"a head that is longer than necessary": "1800 1801 1817 190000 1900ff 1a00000000 1a0000ffff 1b0000000000000000 1b00000000ffffffff 3800 3817 3900ff 5800 5801 580161 7800 780161 9800 9817 980101 b800 b8010101 d800 d801f6 d80482200f d900ff da0000ffff db000000000000ffff f814 f815 f816 f90016 fa00000014",
	"a longer head within":                 "811801 82011801 a11800 a1011801 c13800 c4821800 a1780161 81980101 c1d801",
	"a head with 28 to 31":                 "1c 1d 1e 1f 3c 3d 3e 3f 5c 5d 5e 5f 7c 7d 7e 7f 9c 9d 9e 9f bc bd be bf dc dd de df fc fd fe ff 811c 81ff 9fff 5f4101ff a11e a1011f c19f 8201ff",
	"an integer beyond 64 bits":            "1b8000000000000000 1b8000000000000001 1bffffffffffffffff 3b8000000000000000 3bffffffffffffffff 811b8000000000000000 c11b8000000000000000 a11b8000000000000000 a1013b8000000000000000",
	"a tag above 1000000":                  "da000f4241 da000f4241f6 daffffffff db0000000100000000 dbffffffffffffffff 81da000f4241 a1da000f4241 c1da000f4241",
	"another number of major type 7":       "e0 e1 f0 f2 f3 f7 f818 f820 f8ff f90100 f93c00 fa00010000 fb0000000100000000 fbffffffffffffffff 81f3 81f7 a1f7 a101f3 c1f7 82f6f7",
	"a string of more than 2000 bytes":     "5907d1 590800 59ffff 5a00010000 5affffffff 5b0000000100000000 5bffffffffffffffff 7907d1 79ffff 7affffffff 7bffffffffffffffff 815907d1 a17907d1 c17907d1",
	"a list of more than 300 elements":     "99012d 99ffff 9a00010000 9affffffff 9b0000000100000000 9b8000000000000000 9bffffffffffffffff 8199012d a199012d c199012d",
	"a map of more than 300 pairs":         "b9012d b9ffff ba00010000 ba80000000 bb0000000100000000 bb4000000000000000 bb8000000000000000 bbffffffffffffffff 81b9012d a1b9012d c1b9012d",
}

// formsOf returns the strings whose digits a row of a table holds.
func formsOf(row string) []string {
	forms := []string{}
	for digits := range strings.SplitSeq(row, " ") {
		forms = append(forms, unhex(digits))
	}
	return forms
}

func TestBegins(t *testing.T) {
	checkBegins(t, "nothing", "", true)
	for why, row := range incompletes {
		for _, s := range formsOf(row) {
			checkBegins(t, why, s, true)
			checkBegins(t, why+", within a list", "\x82\x01"+s, true)
			checkBegins(t, why+", behind a value", "\x01"+s, false)
		}
	}
	for _, s := range formsOf(wholes + " " + hollows) {
		checkBegins(t, "complete", s, true)
		checkBegins(t, "complete, within a tag", "\xc1"+s, true)
		checkBegins(t, "complete, and another", s+s, false)
		checkBegins(t, "complete, and the beginning of a head", s+"\x18", false)
		for b := range 256 {
			checkBegins(t, "complete, and a byte", s+string([]byte{byte(b)}), false)
		}
		for i := range len(s) {
			checkBegins(t, "not complete", s[:i], true)
		}
	}
	for why, row := range wrongs {
		for _, s := range formsOf(row) {
			checkBegins(t, why, s, false)
			checkBegins(t, why+", within a map", "\xa1\x01"+s, false)
			for _, more := range []string{"\x00", "\xf6\xf6", "\xff", s, strings.Repeat("a", 3000)} {
				checkBegins(t, why+", and more", s+more, false)
			}
		}
	}
}

func TestBeginsOfEveryHead(t *testing.T) {
	tail := map[bool]string{false: "\x00\x00\x00\x00\x00\x00\x00", true: "\xff\xff\xff\xff\xff\xff\xff"}
	for first := range 256 {
		head := string([]byte{byte(first)})
		low := first % 32
		if low > 27 {
			checkBegins(t, "28 to 31", head, false)
			checkBegins(t, "28 to 31 in a list", "\x81"+head, false)
			continue
		}
		if low < 24 {
			checkBegins(t, "one byte", head, first < 0xe0 || first >= 0xf4 && first <= 0xf6)
			continue
		}
		for behind := range []int{1, 2, 4, 8}[low-24] {
			for _, bytes := range tail {
				s := head + bytes[:behind]
				checkBegins(t, "cut off", s, true)
				checkBegins(t, "cut off in a list", "\x81"+s, true)
				checkBegins(t, "cut off behind a text", "\x82\x61\xff"+s, true)
				checkBegins(t, "cut off as a key", "\xa1"+s, true)
				checkBegins(t, "cut off in a tag", "\xc4"+s, true)
				checkBegins(t, "cut off behind a value", "\x20"+s, false)
			}
		}
	}
}

func TestBeginsOfNumbers(t *testing.T) {
	for major, limits := range numberLimits {
		numbers := []uint64{0, 1, 19, 20, 21, 22, 23, 24, 255, 256, 299, 300, 301, 1999, 2000, 2001, 65535, 65536, 999999, 1000000, 1000001, 4294967295, 4294967296, 1<<63 - 2, 1<<63 - 1, 1 << 63, 1<<63 + 1, math.MaxUint64}
		for _, n := range numbers {
			for _, width := range headWidths {
				if width < leastWidth(n) {
					continue
				}
				s := wideHead(major, n, width)
				fits := n >= limits[0] && n <= limits[1] && width == leastWidth(n)
				checkBegins(t, "a number", s, fits)
				checkBegins(t, "a number in a list", "\x82\xf6"+s, fits)
				for i := range len(s) {
					checkBegins(t, "a number that is cut off", s[:i], true)
				}
			}
		}
	}
}

func TestBeginsOfStringsAndLengths(t *testing.T) {
	for _, major := range []int{2, 3} {
		for _, many := range []int{0, 1, 23, 24, 255, 256, 1999, 2000} {
			s := impl.PutHead(major, uint64(many)) + filled(many)
			for i := range len(s) {
				checkBegins(t, "a string with less", s[:i], true)
			}
			checkBegins(t, "a string", s, true)
			checkBegins(t, "a string with more", s+"\x00", false)
			checkBegins(t, "a string in a list of two", "\x82"+s, true)
			checkBegins(t, "a string in a list of one", "\x81"+s, true)
			checkBegins(t, "a string in a list of none", "\x80"+s, false)
		}
		checkBegins(t, "2001 bytes", impl.PutHead(major, 2001)+filled(2001), false)
	}
	for major, each := range map[int]int{4: 1, 5: 2} {
		for _, many := range []int{0, 1, 2, 23, 24, 255, 256, 299, 300} {
			s := impl.PutHead(major, uint64(many)) + strings.Repeat("\xf6", each*many)
			for i := range len(s) {
				checkBegins(t, "less", s[:i], true)
			}
			checkBegins(t, "as much", s, true)
			checkBegins(t, "more", s+"\xf6", false)
		}
		checkBegins(t, "301", impl.PutHead(major, 301)+strings.Repeat("\xf6", each*301), false)
	}
}

// heads returns a list of four lists with the given number of heads in all, from
// 905 to 1205.
func heads(many int) string {
	three := strings.Repeat(impl.PutHead(4, 300)+strings.Repeat("\x01", 300), 3)
	last := many - 905
	return "\x84" + three + impl.PutHead(4, uint64(last)) + strings.Repeat("\x01", last)
}

func TestBeginsAtTheGreatestNumberOfHeads(t *testing.T) {
	for many := 1190; many <= 1204; many++ {
		checkBegins(t, fmt.Sprint(many, " heads"), heads(many), true)
	}
	checkBegins(t, "1205 heads", heads(1205), false)
	all := heads(1205)
	checkBegins(t, "1203 heads and the next one", all[:len(all)-2], true)
	checkBegins(t, "1204 heads and the next one", all[:len(all)-1], false)
	checkBegins(t, "1204 heads, the last one cut off", all[:len(all)-2]+"\x18", true)
	checkBegins(t, "1205 heads, the last one cut off", all[:len(all)-1]+"\x18", false)
	checkBegins(t, "1204 heads, the last one with a string", all[:len(all)-2]+"\x62a", true)
	checkBegins(t, "1204 heads, the last one an empty list", heads(1204)[:len(heads(1204))-1]+"\x80", true)
	checkBegins(t, "1204 heads, the last one a list", heads(1204)[:len(heads(1204))-1]+"\x81", false)
	checkBegins(t, "1204 heads, the last one a tag", heads(1204)[:len(heads(1204))-1]+"\xc1", false)
	for _, more := range []string{"\x00", "\x18", "\xf6\xf6"} {
		checkBegins(t, "1204 heads and more", heads(1204)+more, false)
	}
	maps := "\x82" + impl.PutHead(5, 300) + strings.Repeat("\x01", 600) + impl.PutHead(5, 300)
	checkBegins(t, "1203 heads in maps", maps+strings.Repeat("\x01", 600), true)
	checkBegins(t, "1204 heads in maps", "\xc1"+maps+strings.Repeat("\x01", 600), true)
	checkBegins(t, "1205 heads in maps", "\xc1\xc1"+maps+strings.Repeat("\x01", 600), false)
}

func TestBeginsAtTheGreatestNesting(t *testing.T) {
	for _, level := range []string{"\x81", "\x82", "\x82\x01", "\xa1", "\xa1\x01", "\xa2\x01\x02\x03", "\xc0", "\xc4", "\x82\x62\xff\xff", "\x83\x80\xa0"} {
		most := strings.Repeat(level, 14)
		checkBegins(t, "13 levels", strings.Repeat(level, 13), true)
		checkBegins(t, "14 levels and the next head", most, true)
		for _, last := range []string{"\x00", "\x18", "\x80", "\xa0", "\x40", "\x62", "\xf6"} {
			checkBegins(t, "a head on level 14", most+last, true)
		}
		for _, last := range []string{"\x81", "\xa1", "\xc1", level, level + "\x00", level + "\x18", "\x98\x18", "\xff"} {
			checkBegins(t, "a head on level 15", most+last, false)
		}
		checkBegins(t, "many levels", strings.Repeat(level, 100000), false)
	}
	checkBegins(t, "mixed levels", strings.Repeat("\x82\xa1\xc1\x81\xa1\x01\xc4\xc4", 2), true)
	checkBegins(t, "more mixed levels", strings.Repeat("\x82\xa1\xc1\x81\xa1\x01\xc4\xc4", 2)+"\x81", false)
	checkBegins(t, "levels one after another", "\x83"+strings.Repeat(strings.Repeat("\x81", 13)+"\x01", 3), true)
	checkBegins(t, "levels one after another, the last too many", "\x83"+strings.Repeat(strings.Repeat("\x81", 13)+"\x01", 2)+strings.Repeat("\x81", 14), false)
	deepest, _ := cborOf(wrapped(decimal(1, 20), 12))
	checkBegins(t, "the deepest VDec", deepest, true)
}

func TestBeginsOfEveryTwoBytes(t *testing.T) {
	for first := range 256 {
		for second := range 256 {
			two := string([]byte{byte(first), byte(second)})
			for _, s := range []string{two, "\x81" + two, "\xa1" + two, "\x82\x61" + two, "\xc4\x82" + two, two + "\x00", two + "\x01\x00"} {
				checkBeginsByHand(t, s)
			}
		}
	}
}

func TestBeginsOfEveryValue(t *testing.T) {
	for why, v := range cborValues() {
		s, _ := cborOf(v)
		for i := range len(s) + 1 {
			if !impl.Begins(s[:i]) {
				t.Fatalf("%s: Begins(%.100x) = false for the first %d bytes", why, s, i)
			}
		}
		checkBegins(t, why+", and a byte", s+"\x00", false)
		checkBegins(t, why+", twice", s+s, false)
	}
	for _, v := range cborMisfits() {
		if writable(v) {
			s, _ := cborOf(v)
			checkBeginsByHand(t, s)
			checkBeginsByHand(t, s[:len(s)/2])
		}
	}
}

func TestBeginsOfPiecesInEveryOrder(t *testing.T) {
	pieces := []string{"\x01", "\x18", "\x19\x01", "\x62", "\x61\xff", "\x60", "\x80", "\x81", "\x82", "\xa1", "\xc4", "\xf6", "\xf7", "\x9f", "\xff"}
	var walk func(s string, left int)
	walk = func(s string, left int) {
		begins := beginsByHand(s)
		if impl.Begins(s) != begins {
			t.Fatalf("Begins(%x) = %v", s, !begins)
		}
		if left == 0 {
			return
		}
		for _, piece := range pieces {
			if !begins && impl.Begins(s+piece) {
				t.Fatalf("Begins(%x) = true, although it is false for the bytes ahead", s+piece)
			}
			walk(s+piece, left-1)
		}
	}
	walk("", 4)
}

func TestBeginsOfChangedBytes(t *testing.T) {
	random := rand.New(rand.NewSource(9))
	for _, v := range smallCborValues() {
		s, _ := cborOf(v)
		for i := range len(s) {
			for _, b := range []byte{byte(random.Intn(256)), s[i] ^ 1, s[i] ^ 32, s[i] + 1} {
				changed := s[:i] + string([]byte{b}) + s[i+1:]
				checkBeginsByHand(t, changed)
				checkBeginsByHand(t, changed[:i+random.Intn(len(s)-i)])
			}
			checkBeginsByHand(t, s[:i]+s[i+1:])
		}
	}
}

func sameValues(a []impl.Value, b []impl.Value) bool {
	return slices.EqualFunc(a, b, func(x, y impl.Value) bool { return order(x, y) == 0 })
}

func feedText(f impl.Feed) string {
	return fmt.Sprintf("{%.60x of %d bytes, %d, %v}", f.Rest, len(f.Rest), f.Many, f.Bad)
}

// checkPushed fails if a feed and values are not the ones that are wanted.
func checkPushed(t *testing.T, why string, f impl.Feed, values []impl.Value, want impl.Feed, wantValues []impl.Value) {
	t.Helper()
	if f != want {
		t.Fatalf("%s: the feed is %s, want %s", why, feedText(f), feedText(want))
	}
	if !sameValues(values, wantValues) {
		t.Fatalf("%s: the values are %s, want %s", why, shortened(list(values...)), shortened(list(wantValues...)))
	}
}

// checkPush fails if Push, or PushAll of one piece, is not what is wanted.
func checkPush(t *testing.T, why string, f impl.Feed, piece string, want impl.Feed, wantValues ...impl.Value) {
	t.Helper()
	why = fmt.Sprintf("%s: Push of %.60x to %s", why, piece, feedText(f))
	got, values := impl.Push(f, piece)
	checkPushed(t, why, got, values, want, wantValues)
	got, values = impl.PushAll(f, []string{piece})
	checkPushed(t, why+" by PushAll", got, values, want, wantValues)
	got, values = pushByHand(f, piece)
	checkPushed(t, why+" by the test itself", got, values, want, wantValues)
}

func TestPush(t *testing.T) {
	one, two := integer(1), integer(2)
	rows := []struct {
		rest   string
		piece  string
		want   impl.Feed
		values []impl.Value
	}{
		{"", "", impl.Feed{}, nil},
		{"", "01", impl.Feed{Many: 1}, []impl.Value{one}},
		{"", "0102", impl.Feed{Many: 2}, []impl.Value{one, two}},
		{"", "01 8201", impl.Feed{Rest: "\x82\x01", Many: 1}, []impl.Value{one}},
		{"", "01 02 18", impl.Feed{Rest: "\x18", Many: 2}, []impl.Value{one, two}},
		{"", "01 f6 c482200f 6161 a0 62c3", impl.Feed{Rest: "\x62\xc3", Many: 5}, []impl.Value{one, null, decimal(15, -1), text("a"), dict()}},
		{"18", "", impl.Feed{Rest: "\x18"}, nil},
		{"18", "18", impl.Feed{Many: 1}, []impl.Value{integer(24)}},
		{"18", "18 18", impl.Feed{Rest: "\x18", Many: 1}, []impl.Value{integer(24)}},
		{"18", "17", impl.Feed{Bad: true}, nil},
		{"18", "17 01", impl.Feed{Bad: true}, nil},
		{"1b 00 00", "00 01 00 00", impl.Feed{Rest: "\x1b\x00\x00\x00\x01\x00\x00"}, nil},
		{"1b 00 00", "00 01 00 00 00 00", impl.Feed{Many: 1}, []impl.Value{integer(1 << 32)}},
		{"1b 80", "00 00 00 00 00 00", impl.Feed{Rest: unhex("1b80000000000000")}, nil},
		{"1b 80", "00 00 00 00 00 00 00", impl.Feed{Bad: true}, nil},
		{"82", "01", impl.Feed{Rest: "\x82\x01"}, nil},
		{"82 01", "02 02", impl.Feed{Many: 2}, []impl.Value{list(one, two), two}},
		{"62", "c3", impl.Feed{Rest: "\x62\xc3"}, nil},
		{"62 c3", "bc", impl.Feed{Many: 1}, []impl.Value{text("\u00fc")}},
		{"62 c3", "28", impl.Feed{Bad: true}, nil},
		{"82 61", "ff", impl.Feed{Rest: "\x82\x61\xff"}, nil},
		{"82 61 ff", "01", impl.Feed{Bad: true}, nil},
		{"a2 01 01", "01", impl.Feed{Rest: unhex("a2010101")}, nil},
		{"a2 01 01", "01 01", impl.Feed{Bad: true}, nil},
		{"c4", "01", impl.Feed{Bad: true}, nil},
		{"c4", "82 20", impl.Feed{Rest: "\xc4\x82\x20"}, nil},
		{"c4 82 20", "0f", impl.Feed{Many: 1}, []impl.Value{decimal(15, -1)}},
		{"c4 82 20", "0a", impl.Feed{Bad: true}, nil},
		{"", "ff", impl.Feed{Bad: true}, nil},
		{"", "01 ff", impl.Feed{Many: 1, Bad: true}, []impl.Value{one}},
		{"", "01 02 ff 01", impl.Feed{Many: 2, Bad: true}, []impl.Value{one, two}},
		{"82 01", "ff", impl.Feed{Bad: true}, nil},
		{"82 01", "02 01 9f", impl.Feed{Many: 2, Bad: true}, []impl.Value{list(one, two), one}},
		{"01", "", impl.Feed{Many: 1}, []impl.Value{one}},
		{"01 02 18", "", impl.Feed{Rest: "\x18", Many: 2}, []impl.Value{one, two}},
		{"01 02 61 ff", "01", impl.Feed{Many: 2, Bad: true}, []impl.Value{one, two}},
		{"ff", "", impl.Feed{Bad: true}, nil},
		{"61 ff", "", impl.Feed{Bad: true}, nil},
		{"f7", "01", impl.Feed{Bad: true}, nil},
	}
	for _, row := range rows {
		rest, piece := unhex(row.rest), unhex(row.piece)
		checkPush(t, "a row", impl.Feed{Rest: rest}, piece, row.want, row.values...)
		later := row.want
		later.Many += 17
		checkPush(t, "a row, later", impl.Feed{Rest: rest, Many: 17}, piece, later, row.values...)
	}
}

func TestPushOfForms(t *testing.T) {
	three := integer(3)
	for why, row := range incompletes {
		for _, s := range formsOf(row) {
			checkPush(t, why, impl.Feed{}, s, impl.Feed{Rest: s})
			checkPush(t, why+", behind a value", impl.Feed{Many: 4}, "\x03"+s, impl.Feed{Rest: s, Many: 5}, three)
			checkPush(t, why+", then nothing", impl.Feed{Rest: s}, "", impl.Feed{Rest: s})
			checkPush(t, why+", in a list", impl.Feed{Rest: "\x82\x03"}, s, impl.Feed{Rest: "\x82\x03" + s})
		}
	}
	for _, s := range formsOf(wholes) {
		v, _ := cborByHand(s, 0, false)
		checkPush(t, "a value", impl.Feed{}, s, impl.Feed{Many: 1}, v)
		checkPush(t, "three values", impl.Feed{}, s+"\x03"+s, impl.Feed{Many: 3}, v, three, v)
		checkPush(t, "a value and a beginning", impl.Feed{}, s+"\x82\x18", impl.Feed{Rest: "\x82\x18", Many: 1}, v)
		checkPush(t, "a value and what cannot begin one", impl.Feed{}, s+"\xff"+s, impl.Feed{Many: 1, Bad: true}, v)
	}
	bad := formsOf(hollows)
	for _, row := range wrongs {
		bad = append(bad, formsOf(row)...)
	}
	for _, s := range bad {
		checkPush(t, "no value", impl.Feed{}, s, impl.Feed{Bad: true})
		checkPush(t, "no value, and a value", impl.Feed{}, s+"\x03", impl.Feed{Bad: true})
		checkPush(t, "no value, and a beginning", impl.Feed{}, s+"\x18", impl.Feed{Bad: true})
		checkPush(t, "no value, behind a value", impl.Feed{Many: 4}, "\x03"+s, impl.Feed{Many: 5, Bad: true}, three)
		checkPush(t, "no value, in the rest", impl.Feed{Rest: s}, "", impl.Feed{Bad: true})
		checkPush(t, "no value, half of it in the rest", impl.Feed{Rest: "\x03" + s[:len(s)/2]}, s[len(s)/2:], impl.Feed{Many: 1, Bad: true}, three)
	}
}

func TestPushOfValuesTooGreat(t *testing.T) {
	values := map[string]impl.Value{
		"13 levels":       wrapped(null, 13),
		"14 levels":       wrapped(null, 14),
		"301 nodes":       list(repeated(null, 300)...),
		"301 nodes, keys": numbered(150),
		"a deep VDec":     wrapped(decimal(1, 20), 13),
	}
	for why, v := range values {
		s, _ := cborOf(v)
		last := len(s) - 1
		if why == "a deep VDec" {
			checkPush(t, why, impl.Feed{}, s, impl.Feed{Bad: true})
			continue
		}
		checkPush(t, why+", cut", impl.Feed{}, "\x01"+s[:last], impl.Feed{Rest: s[:last], Many: 1}, integer(1))
		checkPush(t, why, impl.Feed{}, "\x01"+s, impl.Feed{Many: 1, Bad: true}, integer(1))
		checkPush(t, why+", the last byte", impl.Feed{Rest: s[:last]}, s[last:], impl.Feed{Bad: true})
	}
}

func TestPushOfAValueCutAtEveryByte(t *testing.T) {
	for why, v := range smallCborValues() {
		s, _ := cborOf(v)
		for i := range len(s) {
			checkPush(t, why, impl.Feed{}, s[:i], impl.Feed{Rest: s[:i]})
			checkPush(t, why, impl.Feed{Rest: s[:i], Many: 7}, s[i:], impl.Feed{Many: 8}, v)
			checkPush(t, why, impl.Feed{Rest: s[:i]}, s[i:]+s[:i], impl.Feed{Rest: s[:i], Many: 1}, v)
			checkPush(t, why, impl.Feed{Rest: s[:i]}, s[i:]+s+"\x1c", impl.Feed{Many: 2, Bad: true}, v, v)
		}
	}
	for why, v := range cborValues() {
		s, _ := cborOf(v)
		for _, i := range []int{1, 2, 3, len(s) / 2, len(s) - 2, len(s) - 1} {
			if i > 0 && i < len(s) && i <= 4000 {
				checkPush(t, why, impl.Feed{}, s[:i], impl.Feed{Rest: s[:i]})
				checkPush(t, why, impl.Feed{Rest: s[:i]}, s[i:], impl.Feed{Many: 1}, v)
			}
		}
	}
}

func TestPushAtMaxRest(t *testing.T) {
	v, s := sized(t, 4001)
	checkPush(t, "a rest of MaxRest", impl.Feed{}, s[:4000], impl.Feed{Rest: s[:4000]})
	checkPush(t, "a rest of MaxRest, in two pieces", impl.Feed{Rest: s[:3000]}, s[3000:4000], impl.Feed{Rest: s[:4000]})
	checkPush(t, "a rest of MaxRest behind a value", impl.Feed{}, "\x01"+s[:4000], impl.Feed{Rest: s[:4000], Many: 1}, integer(1))
	checkPush(t, "a rest of MaxRest and nothing", impl.Feed{Rest: s[:4000]}, "", impl.Feed{Rest: s[:4000]})
	checkPush(t, "a rest of MaxRest and its end", impl.Feed{Rest: s[:4000]}, s[4000:], impl.Feed{Many: 1}, v)
	checkPush(t, "a value of MaxRest + 1", impl.Feed{}, s, impl.Feed{Many: 1}, v)
	v, s = sized(t, 4002)
	checkPush(t, "a rest of MaxRest + 1", impl.Feed{}, s[:4001], impl.Feed{Bad: true})
	checkPush(t, "a rest of MaxRest + 1, in two pieces", impl.Feed{Rest: s[:4000]}, s[4000:4001], impl.Feed{Bad: true})
	checkPush(t, "a rest of MaxRest + 1 behind a value", impl.Feed{Rest: "\x01"}, s[:4001], impl.Feed{Many: 1, Bad: true}, integer(1))
	checkPush(t, "a rest of MaxRest and two bytes", impl.Feed{Rest: s[:4000]}, s[4000:], impl.Feed{Many: 1}, v)
	checkPush(t, "a value of MaxRest + 2 and more", impl.Feed{}, s+s+s[:4000], impl.Feed{Rest: s[:4000], Many: 2}, v, v)
	checkPush(t, "a value of MaxRest + 2 and a rest too long", impl.Feed{}, s+s[:4001], impl.Feed{Many: 1, Bad: true}, v)
	full := strings.Repeat("\x01", 4000)
	checkPush(t, "a feed full of values", impl.Feed{Rest: full}, "\x02", impl.Feed{Many: 4001}, append(repeated(integer(1), 4000), integer(2))...)
	checkPush(t, "many values", impl.Feed{}, strings.Repeat("\x02", 20000), impl.Feed{Many: 20000}, repeated(integer(2), 20000)...)
	checkPush(t, "any content", impl.Feed{Rest: filled(4000)}, "", impl.Feed{Bad: true})
}

func TestPushAtTheGreatestNumberOfValues(t *testing.T) {
	one, two := integer(1), integer(2)
	const most = 1000000000
	checkPush(t, "up to it", impl.Feed{Many: most - 1}, "\x01", impl.Feed{Many: most}, one)
	checkPush(t, "up to it, by two", impl.Feed{Many: most - 2}, "\x01\x02", impl.Feed{Many: most}, one, two)
	checkPush(t, "up to it and a beginning", impl.Feed{Many: most - 1}, "\x01\x18", impl.Feed{Rest: "\x18", Many: most}, one)
	checkPush(t, "up to it and another", impl.Feed{Many: most - 1}, "\x01\x02", impl.Feed{Many: most, Bad: true}, one)
	checkPush(t, "up to it and what cannot be", impl.Feed{Many: most - 1}, "\x01\xff", impl.Feed{Many: most, Bad: true}, one)
	checkPush(t, "at it, nothing", impl.Feed{Many: most}, "", impl.Feed{Many: most})
	checkPush(t, "at it, a value", impl.Feed{Many: most}, "\x01", impl.Feed{Many: most, Bad: true})
	checkPush(t, "at it, a value in the rest", impl.Feed{Rest: "\x01", Many: most}, "", impl.Feed{Many: most, Bad: true})
	checkPush(t, "at it, a beginning", impl.Feed{Many: most}, "\x82\x01", impl.Feed{Rest: "\x82\x01", Many: most})
	checkPush(t, "at it, the end of a value", impl.Feed{Rest: "\x82\x01", Many: most}, "\x01", impl.Feed{Many: most, Bad: true})
	checkPush(t, "at it, what cannot be", impl.Feed{Many: most}, "\xff", impl.Feed{Many: most, Bad: true})
}

func TestPushToFeedsThatTakeNothing(t *testing.T) {
	feeds := append(invalidFeeds(), impl.Feed{Bad: true}, impl.Feed{Many: 5, Bad: true}, impl.Feed{Many: 1000000000, Bad: true})
	for _, f := range feeds {
		for _, piece := range []string{"", "\x01", "\x18", "\xff", "\x01\x01"} {
			checkPush(t, "unchanged", f, piece, f)
		}
		for _, pieces := range [][]string{nil, {}, {"", ""}, {"\x01", "\x18", "\x18"}, {"\xff", "\x01"}} {
			got, values := impl.PushAll(f, pieces)
			checkPushed(t, "PushAll", got, values, f, nil)
		}
	}
}

func TestPushAllOfNoPieces(t *testing.T) {
	for _, f := range []impl.Feed{{}, {Rest: "\x18"}, {Rest: "\x01"}, {Rest: "\xff", Many: 3}, {Many: 1000000000}, {Bad: true}, {Rest: filled(4000)}} {
		for _, pieces := range [][]string{nil, {}} {
			got, values := impl.PushAll(f, pieces)
			checkPushed(t, "no pieces", got, values, f, nil)
		}
	}
	got, values := impl.PushAll(impl.Feed{}, []string{"", "", ""})
	checkPushed(t, "empty pieces", got, values, impl.Feed{}, nil)
	got, values = impl.PushAll(impl.Feed{Rest: "\x18", Many: 2}, []string{"", ""})
	checkPushed(t, "empty pieces behind a rest", got, values, impl.Feed{Rest: "\x18", Many: 2}, nil)
	got, values = impl.PushAll(impl.Feed{Rest: "\x01"}, []string{"", ""})
	checkPushed(t, "empty pieces behind a value", got, values, impl.Feed{Many: 1}, []impl.Value{integer(1)})
	got, values = impl.PushAll(impl.Feed{}, []string{"\x01", "\xff", "\x01"})
	checkPushed(t, "pieces behind what cannot be", got, values, impl.Feed{Many: 1, Bad: true}, []impl.Value{integer(1)})
}

// checkPieces fails if the feed and the values are not those of all bytes at once.
func checkPieces(t *testing.T, f impl.Feed, pieces []string, want impl.Feed, wantValues []impl.Value) {
	t.Helper()
	got, values := impl.PushAll(f, pieces)
	checkPushed(t, fmt.Sprintf("the pieces %.200x", pieces), got, values, want, wantValues)
	next, all := f, []impl.Value{}
	for _, piece := range pieces {
		pushed, values := impl.Push(next, piece)
		if !impl.FeedOk(pushed) || pushed.Many != next.Many+len(values) {
			t.Fatalf("the pieces %.200x: the feed is %s after %d values", pieces, feedText(pushed), len(values))
		}
		next, all = pushed, append(all, values...)
	}
	checkPushed(t, fmt.Sprintf("the pieces %.200x, one by one", pieces), next, all, want, wantValues)
}

// checkDivided fails if it makes a difference how s is divided into pieces.
func checkDivided(t *testing.T, random *rand.Rand, s string) {
	t.Helper()
	want, values := pushByHand(impl.Feed{}, s)
	if !want.Bad {
		bytes := ""
		for _, v := range values {
			bytes += impl.PutCbor(v)
		}
		if bytes+want.Rest != s {
			t.Fatalf("%.100x: not all bytes are in the values and the rest", s)
		}
	}
	checkPieces(t, impl.Feed{}, []string{s}, want, values)
	checkPieces(t, impl.Feed{}, impl.Cut(s, slices.Repeat([]int{1}, len(s))), want, values)
	for range 5 {
		pieces := []string{""}
		for rest := s; rest != ""; {
			many := random.Intn(min(len(rest), 40) + 1)
			pieces = append(pieces, rest[:many])
			rest = rest[many:]
		}
		checkPieces(t, impl.Feed{}, pieces, want, values)
	}
	step := 1 + len(s)/50
	for i := 0; i <= len(s); i += step {
		checkPieces(t, impl.Feed{}, []string{s[:i], s[i:]}, want, values)
		checkPieces(t, impl.Feed{}, []string{s[:i], "", s[i:], ""}, want, values)
	}
}

// divided returns s in pieces that end behind the bytes whose bits are in a mask.
func divided(s string, mask int) []string {
	pieces := []string{}
	from := 0
	for i := range len(s) {
		if mask>>i&1 == 1 || i == len(s)-1 {
			pieces = append(pieces, s[from:i+1])
			from = i + 1
		}
	}
	return pieces
}

func TestBytesDividedInEveryWay(t *testing.T) {
	rows := []struct {
		form   string
		want   impl.Feed
		values []impl.Value
	}{
		{"01 820102 6161", impl.Feed{Many: 3}, []impl.Value{integer(1), list(integer(1), integer(2)), text("a")}},
		{"1b7fffffffffffffff 20", impl.Feed{Many: 2}, []impl.Value{integer(math.MaxInt), integer(-1)}},
		{"1b8000000000000000 20", impl.Feed{Bad: true}, nil},
		{"1b00000000ffffffff 20", impl.Feed{Bad: true}, nil},
		{"190100 c48220390100", impl.Feed{Many: 2}, []impl.Value{integer(256), decimal(-257, -1)}},
		{"1900ff c48220390100", impl.Feed{Bad: true}, nil},
		{"01 62c328 f6", impl.Feed{Many: 1, Bad: true}, []impl.Value{integer(1)}},
		{"01 a201010101 f6", impl.Feed{Many: 1, Bad: true}, []impl.Value{integer(1)}},
		{"01 02 ff 03 04", impl.Feed{Many: 2, Bad: true}, []impl.Value{integer(1), integer(2)}},
		{"f6 82f51901", impl.Feed{Rest: "\x82\xf5\x19\x01", Many: 1}, []impl.Value{null}},
		{"5a00010000 00", impl.Feed{Bad: true}, nil},
		{"a1616b420102 c1", impl.Feed{Rest: "\xc1", Many: 1}, []impl.Value{dict(text("k"), octets("\x01\x02"))}},
		{"d901008263616263d8", impl.Feed{Rest: "\xd9\x01\x00\x82\x63abc\xd8"}, nil},
		{"c1c1c1f6 f7 01", impl.Feed{Many: 1, Bad: true}, []impl.Value{tag(1, tag(1, tag(1, null)))}},
		{"8261ff 9f", impl.Feed{Bad: true}, nil},
		{"8261ff 1901", impl.Feed{Rest: "\x82\x61\xff\x19\x01"}, nil},
	}
	for _, row := range rows {
		s := unhex(row.form)
		for mask := range 1 << (len(s) - 1) {
			checkPieces(t, impl.Feed{}, divided(s, mask), row.want, row.values)
		}
	}
}

// streams are bytes that form values, one after another, and what they end with.
func streams(random *rand.Rand) []string {
	ends := formsOf("ff 18 1901 8201 62c3 61ff c401 a201010102 8261ff 1800 f7 5907d1 99012d 01")
	for _, row := range wrongs {
		ends = append(ends, formsOf(row)[0])
	}
	values := []string{}
	for _, v := range smallCborValues() {
		s, _ := cborOf(v)
		values = append(values, s)
	}
	slices.Sort(values)
	all := []string{"", heads(1205), strings.Repeat("\x81", 14) + "\x01", strings.Repeat("\x81", 15)}
	for range 100 {
		s := ""
		for range random.Intn(6) {
			s += values[random.Intn(len(values))]
		}
		all = append(all, s, s+ends[random.Intn(len(ends))], s+ends[random.Intn(len(ends))]+values[random.Intn(len(values))])
		if at := random.Intn(len(s) + 1); at < len(s) {
			all = append(all, s[:at], s[:at]+string([]byte{byte(random.Intn(256))})+s[at+1:])
		}
	}
	return all
}

func TestHowBytesAreDividedMakesNoDifference(t *testing.T) {
	random := rand.New(rand.NewSource(8))
	for _, s := range streams(random) {
		if len(s) > 2000 {
			t.Fatal("more than MaxRest / 2 bytes")
		}
		checkDivided(t, random, s)
	}
	for _, many := range []int{1999, 2000} {
		head := impl.PutHead(2, uint64(many-3))
		checkDivided(t, random, head+filled(many-3))
		checkDivided(t, random, head+filled(many-4))
		checkDivided(t, random, "\x82"+head+filled(many-4))
		checkDivided(t, random, strings.Repeat("\x01", many))
		checkDivided(t, random, strings.Repeat("\x01", many-1)+"\xff")
		checkDivided(t, random, strings.Repeat("\x82", many))
	}
}

func TestBytesDividedBehindARest(t *testing.T) {
	s := unhex("0201 c482200f 62c3bc 1901")
	for _, f := range []impl.Feed{{Rest: "\x82"}, {Rest: "\x82", Many: 999999995}, {Rest: "\xa1", Many: 999999998}, {Rest: "\x82", Many: 999999999}, {Rest: "\x59\x01"}, {Many: 1000000000}} {
		want, values := pushByHand(f, s)
		for mask := range 1 << (len(s) - 1) {
			checkPieces(t, f, divided(s, mask), want, values)
		}
	}
}

func TestCut(t *testing.T) {
	rows := []struct {
		s     string
		sizes []int
		want  []string
	}{
		{"", nil, nil}, {"", []int{1}, nil}, {"", []int{0, -1, 5}, nil},
		{"abcdef", nil, []string{"abcdef"}}, {"abcdef", []int{}, []string{"abcdef"}}, {"a", nil, []string{"a"}},
		{"abcdef", []int{2}, []string{"ab", "cdef"}}, {"abcdef", []int{2, 3}, []string{"ab", "cde", "f"}}, {"abcdef", []int{5}, []string{"abcde", "f"}},
		{"abcdef", []int{6}, []string{"abcdef"}}, {"abcdef", []int{2, 4}, []string{"ab", "cdef"}}, {"abcdef", []int{1, 1, 1, 1, 1, 1}, []string{"a", "b", "c", "d", "e", "f"}},
		{"abcdef", []int{7}, []string{"abcdef"}}, {"abcdef", []int{2, -1, 9}, []string{"ab", "c", "def"}}, {"abcdef", []int{5, 2}, []string{"abcde", "f"}},
		{"abcdef", []int{6, 1}, []string{"abcdef"}}, {"abcdef", []int{6, 0, -1}, []string{"abcdef"}}, {"abcdef", []int{9, 9, 9}, []string{"abcdef"}}, {"abc", []int{2, 2, 2, 2}, []string{"ab", "c"}},
		{"abcdef", []int{0}, []string{"a", "bcdef"}}, {"abcdef", []int{-1, -7, 0}, []string{"a", "b", "c", "def"}}, {"abcdef", []int{math.MinInt, 2}, []string{"a", "bc", "def"}},
		{"abcdef", []int{math.MaxInt}, []string{"abcdef"}}, {"abcdef", []int{1, math.MaxInt, math.MaxInt}, []string{"a", "bcdef"}}, {"ab", []int{0, 0, 0, 0}, []string{"a", "b"}},
		{"\xff\x00\xc3\xbc", []int{3}, []string{"\xff\x00\xc3", "\xbc"}},
	}
	for _, row := range rows {
		if got := impl.Cut(row.s, row.sizes); !slices.Equal(got, row.want) {
			t.Errorf("Cut(%q, %v) = %q, want %q", row.s, row.sizes, got, row.want)
		}
	}
}

func TestCutOfAnySizes(t *testing.T) {
	random := rand.New(rand.NewSource(10))
	for range 2000 {
		s := filled(random.Intn(30))
		sizes := []int{}
		for range random.Intn(8) {
			sizes = append(sizes, random.Intn(12)-2)
		}
		pieces := impl.Cut(s, sizes)
		if strings.Join(pieces, "") != s || slices.Contains(pieces, "") || len(pieces) > len(sizes)+1 {
			t.Fatalf("Cut(%q, %v) = %q", s, sizes, pieces)
		}
		for i, piece := range pieces {
			if i < len(pieces)-1 && len(piece) != max(sizes[i], 1) || i < len(sizes) && len(piece) > max(sizes[i], 1) {
				t.Fatalf("Cut(%q, %v) = %q", s, sizes, pieces)
			}
		}
	}
}

func TestFeedArgumentsAreNotModified(t *testing.T) {
	pieces := append(make([]string, 0, 6), "\x01", "\x82", "\x18", "\x18\xf6\x61")
	spare := pieces[:6]
	spare[4], spare[5] = "spare", "room"
	before := slices.Clone(spare)
	impl.PushAll(impl.Feed{Rest: "\x82"}, pieces)
	if !slices.Equal(spare, before) {
		t.Errorf("PushAll has changed the pieces to %q", spare)
	}
	sizes := append(make([]int, 0, 6), 0, -3, 2, 100)
	room := sizes[:6]
	room[4], room[5] = -8, -9
	impl.Cut("abcdefgh", sizes)
	if !slices.Equal(room, []int{0, -3, 2, 100, -8, -9}) {
		t.Errorf("Cut has changed the sizes to %v", room)
	}
}

// checkFeedApart fails if a feed or values lie in one of the strings.
func checkFeedApart(t *testing.T, why string, f impl.Feed, values []impl.Value, arguments ...string) {
	t.Helper()
	checkNew(t, why, list(values...), text(f.Rest))
	for _, s := range arguments {
		checkApart(t, why, list(append(values, text(f.Rest))...), s)
	}
}

func TestFeedResultsShareNoMemory(t *testing.T) {
	for _, rest := range []string{"", "\x82", "\x82\x63a", "\x63ab", strings.Repeat("\x18", 5000), "\x82\x63abc\x63ab"} {
		for _, piece := range []string{"", "\x63abc", "c\x63abc\x63abc\x82\x43xyz\x81\x43xyz\x43x", "\x82\x63abc\x44", "\xff"} {
			rest, piece := strings.Clone(rest), strings.Clone(piece)
			f, values := impl.Push(impl.Feed{Rest: rest}, piece)
			checkFeedApart(t, "Push", f, values, rest, piece)
			f, values = impl.PushAll(impl.Feed{Rest: rest}, []string{piece, ""})
			checkFeedApart(t, "PushAll", f, values, rest, piece)
			f, values = impl.PushAll(impl.Feed{Rest: rest}, nil)
			checkFeedApart(t, "PushAll of no pieces", f, values, rest)
			f, values = impl.Push(impl.Feed{Rest: rest, Bad: true}, piece)
			checkFeedApart(t, "Push to a bad feed", f, values, rest, piece)
		}
	}
	s := strings.Clone("abcdefghij")
	for _, sizes := range [][]int{nil, {10}, {20}, {3}, {3, 3, 4}, {5, 2, 9}} {
		pieces := impl.Cut(s, sizes)
		for i, piece := range pieces {
			if sharesMemory(piece, s) || i > 0 && sharesMemory(piece, pieces[i-1]) {
				t.Errorf("Cut by %v: the piece %q has the memory of others", sizes, piece)
			}
		}
	}
}
