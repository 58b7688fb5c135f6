package tests

import (
	"fmt"
	"math"
	"slices"
	"strings"
	"testing"
	"unsafe"

	"loop.example/g00421/impl"
)

// The tests of chapter 1 (promise 1). The expected encodings are worked out
// here from the document, not by the library that the program uses.

func isSign(n int) bool {
	return n >= 0 && n <= 1114111 && (n < 55296 || n > 57343)
}

func encodingOf(n int) string {
	tail := func(shift int) byte { return byte(128 + n>>shift&63) }
	switch {
	case n < 128:
		return string([]byte{byte(n)})
	case n < 2048:
		return string([]byte{byte(192 + n>>6), tail(0)})
	case n < 65536:
		return string([]byte{byte(224 + n>>12), tail(6), tail(0)})
	}
	return string([]byte{byte(240 + n>>18), tail(12), tail(6), tail(0)})
}

func allEncodings() map[string]int {
	all := map[string]int{}
	for n := 0; n <= 1114111; n++ {
		if isSign(n) {
			all[encodingOf(n)] = n
		}
	}
	return all
}

// signAt is GetSign by the list of all encodings.
func signAt(all map[string]int, s string, i int) (int, int) {
	for size := 1; size <= 4 && i+size <= len(s); size++ {
		if n, ok := all[s[i:i+size]]; ok {
			return n, i + size
		}
	}
	return -1, -1
}

// Bytes at which the rules for the first and the further bytes of an encoding change.
var edgeBytes = []byte{0, 65, 127, 128, 143, 144, 159, 160, 191, 192, 193, 194, 223, 224, 225, 236, 237, 238, 239, 240, 241, 243, 244, 245, 247, 248, 255}

var oddIndexes = []int{math.MinInt, math.MinInt + 1, -5, -1, math.MaxInt - 4, math.MaxInt - 1, math.MaxInt}

func TestEveryCodePointIsRecovered(t *testing.T) {
	if impl.MaxSign != 1114111 {
		t.Fatal("MaxSign", impl.MaxSign)
	}
	for n := -70000; n <= 1200000; n++ {
		s := impl.PutSign(n)
		if !isSign(n) {
			if s != "" {
				t.Fatalf("PutSign(%d) = %x for no code point", n, s)
			}
			continue
		}
		if s != encodingOf(n) {
			t.Fatalf("PutSign(%d) = %x, not %x", n, s, encodingOf(n))
		}
		if got, next := impl.GetSign(s, 0); got != n || next != len(s) {
			t.Fatalf("GetSign(%x, 0) = %d, %d", s, got, next)
		}
		if got, next := impl.GetSign("\xff"+s+"\xff", 1); got != n || next != 1+len(s) {
			t.Fatalf("GetSign(%x, 1) between other bytes = %d, %d", s, got, next)
		}
	}
}

func TestFirstAndLastCodePointOfEachLength(t *testing.T) {
	rows := []struct {
		n int
		s string
	}{
		{0, "\x00"}, {127, "\x7f"},
		{128, "\xc2\x80"}, {2047, "\xdf\xbf"},
		{2048, "\xe0\xa0\x80"}, {55295, "\xed\x9f\xbf"}, {57344, "\xee\x80\x80"}, {65533, "\xef\xbf\xbd"}, {65535, "\xef\xbf\xbf"},
		{65536, "\xf0\x90\x80\x80"}, {1114111, "\xf4\x8f\xbf\xbf"},
	}
	for _, row := range rows {
		if s := impl.PutSign(row.n); s != row.s {
			t.Errorf("PutSign(%d) = %x, not %x", row.n, s, row.s)
		}
		if n, next := impl.GetSign(row.s, 0); n != row.n || next != len(row.s) {
			t.Errorf("GetSign(%x, 0) = %d, %d", row.s, n, next)
		}
	}
}

func TestPutSignOfNoCodePoint(t *testing.T) {
	for _, n := range []int{math.MinInt, math.MinInt + 65, -1 << 32, -1, 55296, 56319, 56320, 57343, 1114112, 1<<31 - 1, 1 << 31, 1 << 32, 1<<32 + 65, 1<<33 + 65, math.MaxInt} {
		if s := impl.PutSign(n); s != "" {
			t.Errorf("PutSign(%d) = %x", n, s)
		}
	}
}

func TestGetSignAcceptsNoOtherBytes(t *testing.T) {
	all := allEncodings()
	check := func(s string) {
		wantSign, wantNext := signAt(all, s, 0)
		if n, next := impl.GetSign(s, 0); n != wantSign || next != wantNext {
			t.Fatalf("GetSign(%x, 0) = %d, %d, not %d, %d", s, n, next, wantSign, wantNext)
		}
	}
	for a := range 256 {
		check(string([]byte{byte(a)}))
		for b := range 256 {
			check(string([]byte{byte(a), byte(b)}))
		}
	}
	for _, a := range edgeBytes {
		for _, b := range edgeBytes {
			for _, c := range edgeBytes {
				check(string([]byte{a, b, c}))
				for _, d := range edgeBytes {
					check(string([]byte{a, b, c, d}))
				}
			}
		}
	}
}

func TestGetSignRejects(t *testing.T) {
	rows := map[string][]string{
		"incomplete":         {"\xc3", "\xc3a", "\xe2\x82", "\xe2\x82a", "\xe2a\x82", "\xf0\x9f\x98", "\xf0\x9f\x98a", "\xf0"},
		"too long":           {"\xc0\x80", "\xc1\xbf", "\xe0\x80\x80", "\xe0\x9f\xbf", "\xf0\x80\x80\x80", "\xf0\x8f\xbf\xbf"},
		"55296..57343":       {"\xed\xa0\x80", "\xed\xaf\xbf", "\xed\xb0\x80", "\xed\xbf\xbf"},
		"above MaxSign":      {"\xf4\x90\x80\x80", "\xf5\x80\x80\x80", "\xf7\xbf\xbf\xbf", "\xf8\x88\x80\x80\x80"},
		"no start of a sign": {"\x80", "\xbf", "\xfe", "\xff"},
	}
	for why, list := range rows {
		for _, s := range list {
			if n, next := impl.GetSign(s, 0); n != -1 || next != -1 {
				t.Errorf("%s: GetSign(%x, 0) = %d, %d", why, s, n, next)
			}
			if impl.TextOk(s) || impl.TextOk("a"+s) || impl.TextOk(s+"a") {
				t.Errorf("%s: TextOk(%x)", why, s)
			}
		}
	}
}

func TestGetSignAtIndexesOutsideOrWithin(t *testing.T) {
	s := "a\u20ac"
	for _, i := range append([]int{len(s), len(s) + 1}, oddIndexes...) {
		if n, next := impl.GetSign(s, i); n != -1 || next != -1 {
			t.Errorf("GetSign(%q, %d) = %d, %d", s, i, n, next)
		}
	}
	for _, i := range []int{2, 3} {
		if n, next := impl.GetSign(s, i); n != -1 || next != -1 {
			t.Errorf("GetSign within a sign, at %d = %d, %d", i, n, next)
		}
	}
	if n, next := impl.GetSign("", 0); n != -1 || next != -1 {
		t.Errorf("GetSign of the empty string = %d, %d", n, next)
	}
}

func TestTextsAndSigns(t *testing.T) {
	rows := []struct {
		s     string
		signs []int
	}{
		{"", nil},
		{"a", []int{97}},
		{"a\x00\x7f", []int{97, 0, 127}},
		{"\xc2\x80\xdf\xbf", []int{128, 2047}},
		{"\xe0\xa0\x80\xef\xbf\xbd\xef\xbf\xbf", []int{2048, 65533, 65535}},
		{"\xed\x9f\xbf\xee\x80\x80", []int{55295, 57344}},
		{"\xf0\x90\x80\x80\xf4\x8f\xbf\xbf", []int{65536, 1114111}},
	}
	for _, row := range rows {
		if !impl.TextOk(row.s) {
			t.Errorf("TextOk(%x) is false", row.s)
		}
		if signs := impl.Signs(row.s); !slices.Equal(signs, row.signs) {
			t.Errorf("Signs(%x) = %v, not %v", row.s, signs, row.signs)
		}
		for _, bad := range []string{"\xff" + row.s, row.s + "\xff", row.s + "\xc3", row.s + "\xed\xa0\x80" + row.s} {
			if impl.TextOk(bad) {
				t.Errorf("TextOk(%x) is true", bad)
			}
			if signs := impl.Signs(bad); len(signs) != 0 {
				t.Errorf("Signs(%x) = %v", bad, signs)
			}
		}
	}
}

func TestTextOkIsASequenceOfSigns(t *testing.T) {
	all := allEncodings()
	for _, a := range edgeBytes {
		for _, b := range edgeBytes {
			for _, c := range edgeBytes {
				for _, d := range edgeBytes {
					s := string([]byte{a, b, c, d})
					i := 0
					for i >= 0 && i < len(s) {
						_, i = signAt(all, s, i)
					}
					if ok := impl.TextOk(s); ok != (i == len(s)) {
						t.Fatalf("TextOk(%x) = %v", s, ok)
					}
				}
			}
		}
	}
}

func TestHexadecimalDigits(t *testing.T) {
	every := []byte{}
	for a := range 256 {
		s, hex := string([]byte{byte(a)}), fmt.Sprintf("%02x", a)
		if got := impl.PutHex(s); got != hex {
			t.Errorf("PutHex(%q) = %q", s, got)
		}
		every = append(every, byte(a))
	}
	for _, s := range []string{"", "\x00", "\x00\xff", "\xffa\x0f\xf0", string(every)} {
		hex := impl.PutHex(s)
		if hex != fmt.Sprintf("%x", s) {
			t.Errorf("PutHex(%q) = %q", s, hex)
		}
		if got, ok := impl.GetHex(hex); got != s || !ok {
			t.Errorf("GetHex(%q) = %q, %v", hex, got, ok)
		}
	}
}

func TestGetHexAcceptsNoOtherDigits(t *testing.T) {
	for a := range 256 {
		for b := range 256 {
			pair := string([]byte{byte(a), byte(b)})
			high, low := strings.Index("0123456789abcdef", pair[:1]), strings.Index("0123456789abcdef", pair[1:])
			want, wantOk := "", high >= 0 && low >= 0
			if wantOk {
				want = string([]byte{byte(16*high + low)})
			}
			if got, ok := impl.GetHex(pair); got != want || ok != wantOk {
				t.Fatalf("GetHex(%q) = %q, %v", pair, got, ok)
			}
		}
	}
	for _, s := range []string{"0", "f", "00f", "4142 ", "0x41", "41 42", "4g", "4142\n", "FF", "00fF", "g000", "00\xc3\xa9", "٤٢"} {
		if got, ok := impl.GetHex(s); got != "" || ok {
			t.Errorf("GetHex(%q) = %q, %v", s, got, ok)
		}
	}
}

func TestDecimalNumbers(t *testing.T) {
	rows := []struct {
		n int
		s string
	}{
		{0, "0"}, {7, "7"}, {-1, "-1"}, {10, "10"}, {-305, "-305"}, {99, "99"}, {100, "100"},
		{4294967296, "4294967296"}, {-2147483649, "-2147483649"},
		{9223372036854775807, "9223372036854775807"}, {9223372036854775806, "9223372036854775806"},
		{-9223372036854775807, "-9223372036854775807"}, {-9223372036854775808, "-9223372036854775808"},
	}
	for _, row := range rows {
		if s := impl.DecText(row.n); s != row.s {
			t.Errorf("DecText(%d) = %q", row.n, s)
		}
		if n, ok := impl.ReadDec(row.s); n != row.n || !ok {
			t.Errorf("ReadDec(%q) = %d, %v", row.s, n, ok)
		}
	}
	for n := -2000; n <= 2000; n++ {
		s := fmt.Sprintf("%d", n)
		if got := impl.DecText(n); got != s {
			t.Errorf("DecText(%d) = %q", n, got)
		}
		if got, ok := impl.ReadDec(s); got != n || !ok {
			t.Errorf("ReadDec(%q) = %d, %v", s, got, ok)
		}
	}
}

func TestReadDecAcceptsNoOtherText(t *testing.T) {
	list := []string{
		"", "-", "+", "--1", "-0", "+0", "+1", "00", "01", "-01", "007", " 1", "1 ", "1\n", "\x001", "1\x00",
		"1.0", "1.", "1e3", "0x10", "1_000", "1,000", "a", "a1", "1a", "١", "inf", "nil",
		"9223372036854775808", "-9223372036854775809", "18446744073709551615", "18446744073709551616", "18446744073709551617",
		"-18446744073709551617", "92233720368547758070", "09223372036854775807", "-09223372036854775808",
		strings.Repeat("9", 400), "1" + strings.Repeat("0", 64), strings.Repeat("0", 40) + "1",
	}
	for _, s := range list {
		if n, ok := impl.ReadDec(s); n != 0 || ok {
			t.Errorf("ReadDec(%q) = %d, %v", s, n, ok)
		}
	}
	for a := range 256 {
		for b := range 256 {
			s := string([]byte{byte(a), byte(b)})
			n, ok := impl.ReadDec(s)
			if ok && fmt.Sprintf("%d", n) != s || !ok && n != 0 {
				t.Fatalf("ReadDec(%q) = %d, %v", s, n, ok)
			}
		}
	}
}

func TestWords(t *testing.T) {
	rows := []struct {
		s     string
		words []string
	}{
		{"", []string{""}},
		{" ", []string{"", ""}},
		{"  ", []string{"", "", ""}},
		{"a", []string{"a"}},
		{"a b", []string{"a", "b"}},
		{" a  b ", []string{"", "a", "", "b", ""}},
		{"a\tb\nc\u00a0d", []string{"a\tb\nc\u00a0d"}},
		{"\xff \x00", []string{"\xff", "\x00"}},
	}
	for _, row := range rows {
		if words := impl.Words(row.s); !slices.Equal(words, row.words) {
			t.Errorf("Words(%q) = %q, not %q", row.s, words, row.words)
		}
	}
}

// quotedOf is what stands for the code point n between the double quotes of Quote.
func quotedOf(n int) string {
	short := map[int]string{'"': `\"`, '\\': `\\`, 8: `\b`, 12: `\f`, 10: `\n`, 13: `\r`, 9: `\t`}
	if s, ok := short[n]; ok {
		return s
	}
	if n < 32 {
		return fmt.Sprintf(`\u%04x`, n)
	}
	return encodingOf(n)
}

func TestEveryTextIsRecoveredFromItsQuotedForm(t *testing.T) {
	for n := 0; n <= 1114111; n++ {
		if !isSign(n) {
			continue
		}
		s, quoted := encodingOf(n), `"`+quotedOf(n)+`"`
		if got := impl.Quote(s); got != quoted {
			t.Fatalf("Quote(%q) = %s, not %s", s, got, quoted)
		}
		if got, next := impl.Unquote(quoted, 0); got != s || next != len(quoted) {
			t.Fatalf("Unquote(%s, 0) = %q, %d", quoted, got, next)
		}
	}
	for _, s := range []string{"", "a", "a\"b\\c/d", "\b\f\n\r\t\v\x00\x1f\x7f", "\\\"", "\u2028\u20ac\U0001f600", `\u0041`} {
		want := `"`
		for _, n := range impl.Signs(s) {
			want += quotedOf(n)
		}
		want += `"`
		if got := impl.Quote(s); got != want {
			t.Errorf("Quote(%q) = %s, not %s", s, got, want)
		}
		if got, next := impl.Unquote("\xff"+want+"\xff", 1); got != s || next != 1+len(want) {
			t.Errorf("Unquote(%s) between other bytes = %q, %d", want, got, next)
		}
	}
}

func TestQuoteOfNoText(t *testing.T) {
	for _, s := range []string{"\xff", "a\xc3", "\xed\xa0\x80", "\xc0\x80", "\xf4\x90\x80\x80", "a\x80b"} {
		if got := impl.Quote(s); got != "" {
			t.Errorf("Quote(%x) = %q", s, got)
		}
	}
}

func TestUnquoteAccepts(t *testing.T) {
	rows := []struct{ s, text string }{
		{`""`, ""},
		{`"a/b"`, "a/b"},
		{`"\/"`, "/"},
		{`"\"\\\b\f\n\r\t"`, "\"\\\b\f\n\r\t"},
		{`"\u0000\u001f\u0020\u0022\u005c\u007f"`, "\x00\x1f \"\\\x7f"},
		{`"\u00e9\u00E9\u20aC\uABCD\uabcd\uFfFf"`, "\u00e9\u00e9\u20ac\uabcd\uabcd\uffff"},
		{`"\u00411"`, "A1"},
		{`"\u0041\u0042"`, "AB"},
		{`"\ud7ff\ue000"`, "\ud7ff\ue000"},
		{`"\ud800\udc00"`, "\U00010000"},
		{`"\uDBFF\uDFFF"`, "\U0010ffff"},
		{`"\uD83d\uDe00"`, "\U0001f600"},
		{`"x\ud83d\ude00y\ud83d\ude01"`, "x\U0001f600y\U0001f601"},
		{`"\ufffd"`, "\ufffd"},
		{"\"\ufffd\x7f\u0080\"", "\ufffd\x7f\u0080"},
	}
	for _, row := range rows {
		if text, next := impl.Unquote(row.s, 0); text != row.text || next != len(row.s) {
			t.Errorf("Unquote(%s, 0) = %q, %d", row.s, text, next)
		}
		if text, next := impl.Unquote(`"x"`+row.s+`"y`, 3); text != row.text || next != 3+len(row.s) {
			t.Errorf("Unquote(%s, 3) within a text = %q, %d", row.s, text, next)
		}
	}
}

func TestUnquoteReadsPairs(t *testing.T) {
	edges := []int{55295, 55296, 55297, 56319, 56320, 56321, 57343, 57344}
	for _, first := range edges {
		for _, second := range edges {
			s := fmt.Sprintf(`"\u%04x\u%04X"`, first, second)
			want, wantNext := "", -1
			if first >= 55296 && first <= 56319 && second >= 56320 && second <= 57343 {
				want, wantNext = encodingOf(65536+1024*(first-55296)+(second-56320)), len(s)
			}
			if isSign(first) && isSign(second) {
				want, wantNext = encodingOf(first)+encodingOf(second), len(s)
			}
			if text, next := impl.Unquote(s, 0); text != want || next != wantNext {
				t.Errorf("Unquote(%s, 0) = %q, %d, not %q, %d", s, text, next, want, wantNext)
			}
		}
	}
	for n := 65536; n <= 1114111; n++ {
		s := fmt.Sprintf(`"\u%04x\u%04x"`, 55296+(n-65536)/1024, 56320+(n-65536)%1024)
		if text, next := impl.Unquote(s, 0); text != encodingOf(n) || next != len(s) {
			t.Fatalf("Unquote(%s, 0) = %q, %d", s, text, next)
		}
	}
}

func TestUnquoteReadsEveryNumberedEscape(t *testing.T) {
	for n := range 65536 {
		for _, form := range []string{`"\u%04x"`, `"\u%04X"`} {
			s := fmt.Sprintf(form, n)
			want, wantNext := "", -1
			if isSign(n) {
				want, wantNext = encodingOf(n), len(s)
			}
			if text, next := impl.Unquote(s, 0); text != want || next != wantNext {
				t.Fatalf("Unquote(%s, 0) = %q, %d", s, text, next)
			}
		}
	}
}

func TestUnquoteRejects(t *testing.T) {
	rows := map[string][]string{
		"no string":       {"", "a", "a\"\"", " \"\"", "'a'", "\\\"a\"", "null"},
		"no end":          {`"`, `"a`, `"\`, `"\"`, `"\\\"`, `"a\u00e9`, `"\u`, `"\u1`, `"\u12`, `"\u123`, `"\u1234`},
		"raw below 32":    {"\"\n\"", "\"\x00\"", "\"a\x1f\"", "\"\t\"", "\"\r\"", "\"\b\""},
		"no text":         {"\"\xff\"", "\"\xc3\"", "\"\xc3", "\"\xed\xa0\x80\"", "\"\xc0\x80\"", "\"\xf4\x90\x80\x80\"", "\"a\x80\""},
		"unknown escape":  {`"\x"`, `"\a"`, `"\v"`, `"\0"`, `"\'"`, `"\U0041"`, `"\B"`, `"\N"`, `"\ "`, "\"\\\n\"", "\"\\\x00\"", "\"\\\xff\"", "\"\\\u00e9\""},
		"digits":          {`"\u"`, `"\u1"`, `"\u12"`, `"\u123"`, `"\u123g"`, `"\ug123"`, `"\u12G4"`, `"\u 123"`, `"\u+123"`, `"\u-123"`, `"\u0x12"`, `"\u{12}"`, `"\u12\u12"`, "\"\\u123\xff\"", `"\u004@"`, "\"\\u004`\"", `"\u004:"`, `"\u004/"`},
		"only the first":  {`"\ud83d"`, `"\ud83da"`, `"\ud83d\n"`, `"\ud83d\"`, `"\ud83d\u"`, `"\ud83d\u0041"`, `"\ud83d\ude0"`, `"\ud83d\ud83d"`, `"\ud83d\ud83d\ude00"`, `"\ud800 \udc00"`, `"\ud83dude00"`, `"\ud83d/ude00"`, `"\ud83d\\ude00"`, `"\ud83d\Ude00"`, "\"\\ud83d\xed\xb8\x80\"", `"\ud83d`, `"\ud83d\`, `"\ud83d\u`, `"\ud83d\ude0`, `"\ud83d\ude00`, `"\ud83d\ue000"`},
		"only the second": {`"\ude00"`, `"\udc00"`, `"\udfff"`, `"\ude00\ud83d"`, `"a\ude00b"`, `"\ud83d\ude00\ude00"`, `"\uDE00"`},
	}
	for why, list := range rows {
		for _, s := range list {
			if text, next := impl.Unquote(s, 0); text != "" || next != -1 {
				t.Errorf("%s: Unquote(%q, 0) = %q, %d", why, s, text, next)
			}
			if text, next := impl.Unquote("\"a\""+s, 3); text != "" || next != -1 {
				t.Errorf("%s: Unquote(%q, 3) after a string = %q, %d", why, s, text, next)
			}
		}
	}
	for _, i := range append([]int{3, 4}, oddIndexes...) {
		if text, next := impl.Unquote(`"a"`, i); text != "" || next != -1 {
			t.Errorf("Unquote at index %d = %q, %d", i, text, next)
		}
	}
}

// A single byte between the quotes, plain or behind a backslash: every one of them.
func TestUnquoteOfEveryByte(t *testing.T) {
	escapes := map[byte]string{'"': `"`, '\\': `\`, '/': "/", 'b': "\b", 'f': "\f", 'n': "\n", 'r': "\r", 't': "\t"}
	for a := range 256 {
		c := byte(a)
		want, wantNext := "", -1
		if c >= 32 && c < 128 && c != '"' && c != '\\' {
			want, wantNext = string([]byte{c}), 3
		}
		if c == '"' {
			wantNext = 2
		}
		if text, next := impl.Unquote("\""+string([]byte{c})+"\"", 0); text != want || next != wantNext {
			t.Errorf("Unquote of byte %d = %q, %d", c, text, next)
		}
		want, wantNext = "", -1
		if text, ok := escapes[c]; ok {
			want, wantNext = text, 4
		}
		if text, next := impl.Unquote("\"\\"+string([]byte{c})+"\"", 0); text != want || next != wantNext {
			t.Errorf("Unquote of the escape %d = %q, %d", c, text, next)
		}
	}
}

// Whatever pieces follow each other, what Unquote accepts is quoted and read
// back as itself, and every call returns.
func TestUnquoteOfPiecesInEveryOrder(t *testing.T) {
	pieces := []string{`"`, `\`, `u`, `\u`, `00`, `d83d`, `DE00`, `\ud83d`, `\ude00`, `n`, `/`, "\u00e9", "\xc3", "\n", " "}
	var walk func(s string, left int)
	walk = func(s string, left int) {
		for i := -1; i <= len(s); i++ {
			text, next := impl.Unquote(s, i)
			if next == -1 && text == "" {
				continue
			}
			if next < i+2 || next > len(s) || s[next-1] != '"' || !impl.TextOk(text) {
				t.Fatalf("Unquote(%q, %d) = %q, %d", s, i, text, next)
			}
			quoted := impl.Quote(text)
			if again, end := impl.Unquote(quoted, 0); again != text || end != len(quoted) {
				t.Fatalf("Unquote(%q, 0) = %q, %d", quoted, again, end)
			}
		}
		if left == 0 {
			return
		}
		for _, piece := range pieces {
			walk(s+piece, left-1)
		}
	}
	walk(`"`, 4)
}

func sharesMemory(a string, b string) bool {
	if a == "" || b == "" {
		return false
	}
	from := uintptr(unsafe.Pointer(unsafe.StringData(a)))
	other := uintptr(unsafe.Pointer(unsafe.StringData(b)))
	return from < other+uintptr(len(b)) && other < from+uintptr(len(a))
}

func TestTextResultsShareNoMemory(t *testing.T) {
	s := strings.Repeat("abcd 1234 ", 3)
	for _, word := range impl.Words(s) {
		if sharesMemory(word, s) {
			t.Errorf("the word %q lies in the string that was split", word)
		}
	}
	one := strings.Repeat("word", 5)
	if sharesMemory(impl.Words(one)[0], one) {
		t.Error("the only word is the string that was split")
	}
	quoted := impl.Quote(s)
	if text, _ := impl.Unquote(quoted, 0); sharesMemory(text, quoted) {
		t.Error("the value of Unquote lies in its argument")
	}
	signs := impl.Signs(s)
	signs[0] = -7
	if impl.Signs(s)[0] != 'a' {
		t.Error("two results of Signs share memory")
	}
}
