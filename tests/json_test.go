package tests

import (
	"bytes"
	"encoding/json"
	"fmt"
	"math/rand"
	"regexp"
	"runtime/debug"
	"strconv"
	"strings"
	"testing"

	"loop.example/g00421/impl"
)

// The tests of chapter 4 (promise 4). The expected results are written by hand
// or worked out here from a list of the text's tokens.

// fitsByHand reports whether JSON has a notation for every node of a valid v.
func fitsByHand(v impl.Value) bool {
	for i, kid := range v.Kids {
		if v.Kind == impl.VMap && i%2 == 0 && kid.Kind != impl.VText || !fitsByHand(kid) {
			return false
		}
	}
	return v.Kind != impl.VBytes && v.Kind != impl.VTag
}

// placed returns values that contain v as an element at several levels.
func placed(v impl.Value) []impl.Value {
	return []impl.Value{
		v,
		list(v),
		list(null, v, null),
		dict(text("a"), v),
		dict(text("a"), null, text("b"), list(null, dict(text("c"), v))),
		list(wrapped(v, 5), null),
		wrapped(dict(text("k"), wrapped(v, 3)), 4),
	}
}

// fittingValues are values of every kind that fits, some of them too long.
func fittingValues() map[string]impl.Value {
	values := map[string]impl.Value{
		"nested":           list(dict(text("a"), list(integer(1), dict(text("b"), integer(2)))), list(list(), dict()), text("\n\"\\")),
		"a nested map":     dict(text("a"), dict(text("b"), dict(text("c"), dict(), text("d"), list())), text("e"), null),
		"blanks in texts":  dict(text(" a \n\t\r"), text(" : , [ ] { } \" \\ "), text(""), text(" ")),
		"brackets in text": list(text("]"), text("}"), text(","), text(":"), text("\"")),
		"every escape":     text("\b\f\n\r\t\"\\/\x00\x1f\x7f\u0080\u20ac\U0001f600\U0010ffff"),
		"words in text":    dict(text("null"), text("true"), text("false"), text("1")),
		"MaxNodes":         list(repeated(integer(-7), 299)...),
		"149 text keys":    textNumbered(149),
		"too long":         list(text(strings.Repeat("a", 2000)), text(strings.Repeat("b", 2000))),
		"too long, quoted": text(strings.Repeat("\"", 2000)),
	}
	for why, v := range validValues() {
		if fitsByHand(v) {
			values[why] = v
		}
	}
	for i, v := range edgeDecimals() {
		if i%7 == 0 {
			values["number "+strconv.Itoa(i)] = list(v)
		}
	}
	random := rand.New(rand.NewSource(4))
	for i := range 300 {
		values["random "+strconv.Itoa(i)] = randomValue(random, 5, true)
	}
	return values
}

// textNumbered returns a VMap with the given number of pairs with VText keys.
func textNumbered(pairs int) impl.Value {
	v := dict()
	for i := range pairs {
		v.Kids = append(v.Kids, text(strconv.Itoa(i)), null)
	}
	return v
}

// randomValue returns a valid value of at most the given number of levels; one
// that fits, if asked for.
func randomValue(random *rand.Rand, levels int, fits bool) impl.Value {
	simple := []impl.Value{null, no, yes, integer(random.Intn(20) - 10), decimal(2*random.Intn(5)+11, -random.Intn(5)-1), text(randomText(random))}
	if !fits {
		simple = append(simple, octets(randomText(random)+"\xff"), tag(random.Intn(9), integer(5)))
	}
	if levels == 0 || random.Intn(4) == 0 {
		return simple[random.Intn(len(simple))]
	}
	v := impl.Value{Kind: []int{impl.VList, impl.VMap, impl.VTag}[random.Intn(3)]}
	if v.Kind == impl.VTag {
		if fits {
			v.Kind = impl.VList
		}
		v.Kids = append(v.Kids, randomValue(random, levels-1, fits))
		return v
	}
	for i := range random.Intn(4) {
		if v.Kind == impl.VMap {
			v.Kids = append(v.Kids, randomKey(random, v, i, fits))
		}
		v.Kids = append(v.Kids, randomValue(random, levels-1, fits))
	}
	return v
}

// randomKey returns a key that the VMap v has not.
func randomKey(random *rand.Rand, v impl.Value, i int, fits bool) impl.Value {
	key := text(strconv.Itoa(random.Intn(3)))
	if !fits && random.Intn(2) == 0 {
		key = integer(random.Intn(3))
	}
	for j := 0; j < len(v.Kids); j += 2 {
		if order(v.Kids[j], key) == 0 {
			return text(fmt.Sprint("k", i, randomText(random)))
		}
	}
	return key
}

func randomText(random *rand.Rand) string {
	pieces := []string{"a", "\"", "\\", " ", "\n", "\u00e9", "\U0001f600", "\x01", "/", "[", "}", ",", "u0041"}
	s := ""
	for range random.Intn(5) {
		s += pieces[random.Intn(len(pieces))]
	}
	return s
}

func TestJsonFits(t *testing.T) {
	for why, v := range validValues() {
		if got := impl.JsonFits(v); got != fitsByHand(v) {
			t.Errorf("%s: JsonFits = %v", why, got)
		}
	}
	for why, v := range invalidValues() {
		if impl.JsonFits(v) {
			t.Errorf("%s: an invalid value fits", why)
		}
	}
	for _, v := range []impl.Value{null, no, yes, integer(-1), decimal(15, -1), text("a"), list(), dict(), dict(text("1"), null)} {
		for i, with := range placed(v) {
			if !impl.JsonFits(with) {
				t.Errorf("place %d of %+v does not fit", i, v)
			}
		}
	}
	for _, v := range misfits() {
		for i, with := range placed(v) {
			if impl.JsonFits(with) {
				t.Errorf("place %d of %+v fits", i, v)
			}
		}
	}
}

// misfits are values, valid or not, that do not fit.
func misfits() []impl.Value {
	return []impl.Value{
		octets(""), octets("a"), tag(0, null), tag(5, text("a")),
		dict(integer(1), null), dict(text("1"), null, integer(1), null), dict(integer(1), null, text("1"), null),
		decimal(10, -1), text("\xff"), {Kind: 10}, dict(text("a")), dict(text("a"), null, text("a"), null),
		{Kind: impl.VNull, N: 1}, {Kind: impl.VTrue, S: "a"}, {Kind: impl.VList, E: 1},
	}
}

func TestPutJsonAndPretty(t *testing.T) {
	rows := []struct {
		v            impl.Value
		json, pretty string
	}{
		{null, "null", "null"},
		{no, "false", "false"},
		{yes, "true", "true"},
		{integer(0), "0", "0"},
		{integer(-15), "-15", "-15"},
		{integer(9223372036854775807), "9223372036854775807", "9223372036854775807"},
		{integer(-9223372036854775808), "-9223372036854775808", "-9223372036854775808"},
		{decimal(-25, -1), "-2.5", "-2.5"},
		{decimal(5, -3), "0.005", "0.005"},
		{decimal(15, 20), "15e20", "15e20"},
		{decimal(-1, 19), "-1e19", "-1e19"},
		{text(""), `""`, `""`},
		{text("a \"b\"\n\\\x01/\u00e9"), `"a \"b\"\n\\\u0001/` + "\u00e9\"", `"a \"b\"\n\\\u0001/` + "\u00e9\""},
		{list(), "[]", "[]"},
		{dict(), "{}", "{}"},
		{list(null), "[null]", "[\n  null\n]"},
		{list(integer(1), text("a, b"), yes), `[1,"a, b",true]`, "[\n  1,\n  \"a, b\",\n  true\n]"},
		{list(list(), dict()), "[[],{}]", "[\n  [],\n  {}\n]"},
		{list(list(list())), "[[[]]]", "[\n  [\n    []\n  ]\n]"},
		{dict(text("a"), integer(1)), `{"a":1}`, "{\n  \"a\": 1\n}"},
		{dict(text("b"), dict(), text("a"), list(), text(""), text(":")), `{"b":{},"a":[],"":":"}`, "{\n  \"b\": {},\n  \"a\": [],\n  \"\": \":\"\n}"},
		{
			dict(text("a"), list(integer(1), dict(text("b"), list(decimal(5, -1), no))), text("c"), dict(text("d"), dict(text("e"), null))),
			`{"a":[1,{"b":[0.5,false]}],"c":{"d":{"e":null}}}`,
			"{\n  \"a\": [\n    1,\n    {\n      \"b\": [\n        0.5,\n        false\n      ]\n    }\n  ],\n  \"c\": {\n    \"d\": {\n      \"e\": null\n    }\n  }\n}",
		},
	}
	for _, row := range rows {
		if got := impl.PutJson(row.v); got != row.json {
			t.Errorf("PutJson = %q, want %q", got, row.json)
		}
		if got := impl.Pretty(row.v); got != row.pretty {
			t.Errorf("Pretty = %q, want %q", got, row.pretty)
		}
	}
}

func TestPutJsonOfMisfits(t *testing.T) {
	values := invalidValues()
	for why, v := range validValues() {
		if !fitsByHand(v) {
			values[why] = v
		}
	}
	for i, v := range misfits() {
		for j, with := range placed(v) {
			values[fmt.Sprint("misfit ", i, " at place ", j)] = with
		}
	}
	for why, v := range values {
		if got := impl.PutJson(v); got != "" {
			t.Errorf("%s: PutJson = %q", why, got)
		}
		if got := impl.Pretty(v); got != "" {
			t.Errorf("%s: Pretty = %q", why, got)
		}
	}
}

// The library's own notation of JSON has the same layout.
func TestPrettyIsIndentedJson(t *testing.T) {
	for why, v := range fittingValues() {
		short, pretty := impl.PutJson(v), impl.Pretty(v)
		var want, compact bytes.Buffer
		if err := json.Indent(&want, []byte(short), "", "  "); err != nil || want.String() != pretty {
			t.Errorf("%s: Pretty = %.300q, %v", why, pretty, err)
		}
		if err := json.Compact(&compact, []byte(pretty)); err != nil || compact.String() != short {
			t.Errorf("%s: PutJson = %.300q, %v", why, short, err)
		}
		if got := impl.Blanks(pretty); got != short {
			t.Errorf("%s: Blanks of Pretty = %.300q", why, got)
		}
		if got := impl.Blanks(short); got != short {
			t.Errorf("%s: Blanks of PutJson = %.300q", why, got)
		}
	}
}

// checkJson fails if GetJson of s is not v, or not 0 for an s that is too long.
func checkJson(t *testing.T, why string, s string, v impl.Value) {
	t.Helper()
	got, bad := impl.GetJson(s)
	if len(s) > 4000 {
		if bad != 0 || order(got, impl.Value{}) != 0 {
			t.Errorf("%s: GetJson of a text that is too long = %s, %d", why, shortened(got), bad)
		}
		return
	}
	if bad != -1 || order(got, v) != 0 {
		t.Errorf("%s: GetJson(%.300q) = %s, %d", why, s, shortened(got), bad)
	}
}

func TestValuesAreRecoveredFromJson(t *testing.T) {
	blanks := []string{" ", "\n", "\r", "\t", " \t\r\n  "}
	for why, v := range fittingValues() {
		s := impl.PutJson(v)
		checkJson(t, why, s, v)
		checkJson(t, why, impl.Pretty(v), v)
		tokens := tokensOf(t, s)
		for i, blank := range blanks {
			checkJson(t, why, blank+strings.Join(tokens, blank)+blank, v)
			mixed := blank
			for j, token := range tokens {
				mixed += token + blanks[(i+j)%len(blanks)]
			}
			checkJson(t, why, mixed, v)
		}
	}
}

// The tokens of JSON; a token's string may still have an unpaired escape.
var (
	tokenForm  = regexp.MustCompile(`^(?:[][{}:,]|null|false|true|"(?:[^"\\\x00-\x1f]|\\["\\/bfnrt]|\\u[0-9a-fA-F]{4})*"|-?(?:0|[1-9][0-9]*)(?:\.[0-9]+)?(?:[eE][-+]?[0-9]+)?)`)
	blanksForm = regexp.MustCompile("^[ \n\r\t]*")
)

func tokensOf(t *testing.T, s string) []string {
	t.Helper()
	tokens := []string{}
	for s != "" {
		token := tokenForm.FindString(s)
		if token == "" {
			t.Fatalf("no token: %.100q", s)
		}
		tokens = append(tokens, token)
		s = s[len(token):]
	}
	return tokens
}

// What may come next in a text.
const (
	wantValue = iota
	wantValueOrClose
	wantKey
	wantKeyOrClose
	wantColon
	wantCommaOrClose
	wantEnd
)

// A jsonMachine reads tokens one by one, with the lists and maps that are open.
type jsonMachine struct {
	want int
	open []impl.Value
	done impl.Value
}

// jsonByHand works out GetJson by a jsonMachine.
func jsonByHand(s string) (impl.Value, int) {
	if len(s) > 4000 {
		return impl.Value{}, 0
	}
	m := jsonMachine{}
	for at := 0; ; {
		at += len(blanksForm.FindString(s[at:]))
		if at == len(s) && m.want == wantEnd {
			break
		}
		token := tokenForm.FindString(s[at:])
		if !m.step(token) {
			return impl.Value{}, at
		}
		at += len(token)
	}
	if !impl.ValueOk(m.done) {
		return impl.Value{}, 0
	}
	return m.done, -1
}

// step reports whether the token fits; an empty one is the end of the text or
// a malformed one.
func (m *jsonMachine) step(token string) bool {
	last := len(m.open) - 1
	switch {
	case token == "":
		return false
	case token == ":":
		fits := m.want == wantColon
		m.want = wantValue
		return fits
	case token == ",":
		fits := m.want == wantCommaOrClose
		m.want = wantValue
		if fits && m.open[last].Kind == impl.VMap {
			m.want = wantKey
		}
		return fits
	case token == "]" || token == "}":
		inMap := last >= 0 && m.open[last].Kind == impl.VMap
		canClose := m.want == wantCommaOrClose || m.want == wantValueOrClose || m.want == wantKeyOrClose
		if !canClose || inMap != (token == "}") {
			return false
		}
		closed := m.open[last]
		m.open = m.open[:last]
		m.add(closed)
		return true
	case m.want == wantKey || m.want == wantKeyOrClose:
		key, next := impl.Unquote(token, 0)
		if next < 0 {
			return false
		}
		m.open[last].Kids = append(m.open[last].Kids, text(key))
		m.want = wantColon
		return true
	case m.want != wantValue && m.want != wantValueOrClose:
		return false
	}
	return m.begin(token)
}

// begin reads the first token of a value, where there may be one.
func (m *jsonMachine) begin(token string) bool {
	words := map[string]impl.Value{"null": null, "false": no, "true": yes}
	v, isWord := words[token]
	next := 0
	switch {
	case token == "[":
		m.open, m.want = append(m.open, list()), wantValueOrClose
		return true
	case token == "{":
		m.open, m.want = append(m.open, dict()), wantKeyOrClose
		return true
	case isWord:
	case token[0] == '"':
		v.Kind = impl.VText
		v.S, next = impl.Unquote(token, 0)
	default:
		v, next = impl.ReadNum(token, 0)
	}
	if next < 0 {
		return false
	}
	m.add(v)
	return true
}

// add puts a complete value where it belongs.
func (m *jsonMachine) add(v impl.Value) {
	if len(m.open) == 0 {
		m.done, m.want = v, wantEnd
		return
	}
	above := &m.open[len(m.open)-1]
	above.Kids = append(above.Kids, v)
	m.want = wantCommaOrClose
}

func checkGetJson(t *testing.T, s string) {
	t.Helper()
	want, wantBad := jsonByHand(s)
	got, bad := impl.GetJson(s)
	if bad != wantBad || order(got, want) != 0 {
		t.Fatalf("GetJson(%.300q) = %s, %d, want %s, %d", s, shortened(got), bad, shortened(want), wantBad)
	}
}

func TestGetJson(t *testing.T) {
	rows := []struct {
		s    string
		want impl.Value
	}{
		{"null", null},
		{"false", no},
		{"true", yes},
		{" \n\r\ttrue\t\r\n ", yes},
		{"0", integer(0)},
		{"-0", integer(0)},
		{"-0.0e5", integer(0)},
		{"1.50", decimal(15, -1)},
		{"15E+1", integer(150)},
		{"1e19", decimal(1, 19)},
		{"-9223372036854775808", integer(-9223372036854775808)},
		{`"a\u00e9\/\ud83d\ude00"`, text("a\u00e9/\U0001f600")},
		{"\"\u00e9\x7f\"", text("\u00e9\x7f")},
		{"[]", list()},
		{"[ ]", list()},
		{"{}", dict()},
		{"{\n}", dict()},
		{"[[],[[]],{}]", list(list(), list(list()), dict())},
		{"[1,-2 , 3]", list(integer(1), integer(-2), integer(3))},
		{`{"b":1,"a":2,"":3}`, dict(text("b"), integer(1), text("a"), integer(2), text(""), integer(3))},
		{`{"a":{"a":[{"a":null}]}}`, dict(text("a"), dict(text("a"), list(dict(text("a"), null))))},
		{`{"1":1,"\u0031 ":2}`, dict(text("1"), integer(1), text("1 "), integer(2))},
	}
	for _, row := range rows {
		checkJson(t, row.s, row.s, row.want)
		checkGetJson(t, row.s)
	}
}

func TestGetJsonTellsTheTokenThatDoesNotFit(t *testing.T) {
	rows := []struct {
		s   string
		bad int
	}{
		// A missing value.
		{"", 0}, {" ", 1}, {"\n\r\t ", 4}, {"[", 1}, {"[ ", 2}, {"[1,", 3}, {"[1, ", 4}, {`{"a":`, 5}, {`{"a": `, 6},
		{"[,1]", 1}, {"[ ,1]", 2}, {"[1,,2]", 3}, {"[1,]", 3}, {"[1, ]", 4}, {`{"a":}`, 5}, {`{"a":,"b":1}`, 5}, {`{"a"::1}`, 5},
		{"]", 0}, {" }", 1}, {",", 0}, {":", 0}, {"[:]", 1}, {"[}", 1},
		// A missing comma or closing bracket.
		{"[1 2]", 3}, {"[1", 2}, {"[1 ", 3}, {"[[]", 3}, {"[1}", 2}, {"[1:2]", 2}, {"[[] []]", 4}, {"[{}{}]", 3}, {`["a""b"]`, 4},
		{`{"a":1`, 6}, {`{"a":1 `, 7}, {`{"a":1]`, 6}, {`{"a":1 "b":2}`, 7}, {`{"a":1:2}`, 6}, {`{"a":{}`, 7}, {`[1 x]`, 3},
		// A missing colon.
		{`{"a"`, 4}, {`{"a" `, 5}, {`{"a" 1}`, 5}, {`{"a"}`, 4}, {`{"a",1}`, 4}, {`{"a"]`, 4}, {`{"a"{}}`, 4},
		// A missing key, or one that is no string.
		{"{", 1}, {"{ ", 2}, {`{"a":1,`, 7}, {`{"a":1,}`, 7}, {`{"a":1, }`, 8}, {"{,}", 1}, {"{]", 1}, {"{:1}", 1},
		{"{a:1}", 1}, {"{ 1:2}", 2}, {"{null:1}", 1}, {"{[]:1}", 1}, {"{{}:1}", 1}, {`{"a":1,b:2}`, 7}, {`{"a":1,,}`, 7}, {`{'a':1}`, 1},
		// A malformed literal.
		{"nul", 0}, {"n", 0}, {" fals", 1}, {"[tru]", 1}, {"[1,nulL]", 3}, {"True", 0}, {"nan", 0}, {"undefined", 0}, {`{"a":nil}`, 5}, {"[true,f]", 6},
		// A malformed string.
		{`"`, 0}, {`"a`, 0}, {` "a`, 1}, {`"a\"`, 0}, {`["a", "\x"]`, 6}, {`"\u12g4"`, 0}, {`"\ud800"`, 0}, {`["\udc00"]`, 1}, {"\"\n\"", 0}, {"[\"\x1f\"]", 1},
		{"\"\xff\"", 0}, {"[1,\"\xc3\"]", 3}, {`{"a`, 1}, {`{"a\":1}`, 1}, {`{"\x":1}`, 1}, {`{"a":"\x"}`, 5}, {`{"a":1,"b`, 7}, {`'a'`, 0},
		// A malformed number.
		{"-", 0}, {"[-]", 1}, {" -a", 1}, {"+1", 0}, {".5", 0}, {"[1,.5]", 3}, {"-.5", 0}, {"- 1", 0}, {"1e41", 0}, {"[1e1001]", 1}, {"1e-21", 0},
		{"9223372036854775808", 0}, {"[0,1234567890123456789.5]", 3}, {"0." + strings.Repeat("0", 59), 0}, {`{"a":1e99}`, 5}, {"Infinity", 0},
		// Something behind the value or behind a shorter number.
		{"1 2", 2}, {"01", 1}, {"-01", 2}, {"[01]", 2}, {"1.", 1}, {"1.e5", 1}, {"1e", 1}, {"[1e+]", 2}, {"1.5.2", 3}, {"0x1", 1}, {"1a", 1},
		{"null null", 5}, {"nullx", 4}, {"truefalse", 4}, {"[]]", 2}, {"[] ]", 3}, {"{}}", 2}, {"{},", 2}, {`"a""b"`, 3}, {`"a" x`, 4}, {"[]\n[]", 3}, {"1,", 1}, {"null:", 4},
		// Blanks of other kinds are none.
		{"\x00", 0}, {"1\x00", 1}, {"[\x00]", 1}, {"[1\x0b]", 2}, {"\x0c1", 0}, {"\u00a01", 0}, {"1\u2003", 1}, {"\ufeff1", 0}, {"[1,\x00]", 3}, {"{\x00}", 1}, {"/**/1", 0}, {"1//", 1},
		// Texts of values that are invalid.
		{`{"a":1,"a":2}`, 0}, {` [1,{"a":1,"b":2,"a":1}]`, 0}, {`{"a":1,"\u0061":1}`, 0}, {`{"":1,"":1}`, 0},
		{strings.Repeat("[", 14) + strings.Repeat("]", 14), 0},
		{strings.Repeat(`{"a":`, 13) + "1" + strings.Repeat("}", 13), 0},
		{"[" + strings.Repeat("1,", 299) + "1]", 0},
		{`"` + strings.Repeat("a", 2001) + `"`, 0},
		{`[1,{"` + strings.Repeat("a", 2001) + `":1}]`, 0},
		// Texts that end too soon for a value, whatever it would be.
		{`{"a":1,"a":2`, 12}, {`{"a":1,"a":2} x`, 14},
		{strings.Repeat("[", 4000), 4000}, {strings.Repeat(`{"a":`, 800), 4000}, {strings.Repeat("[", 30) + "}", 30},
		{"[" + strings.Repeat("1,", 400) + "]", 801},
		// Texts that are too long.
		{strings.Repeat("[", 4001), 0}, {strings.Repeat(" ", 4001), 0}, {"1" + strings.Repeat(" ", 4000), 0}, {strings.Repeat(" ", 4000) + "1", 0}, {strings.Repeat("[1 2]", 900), 0},
	}
	for _, row := range rows {
		if got, bad := impl.GetJson(row.s); bad != row.bad || order(got, impl.Value{}) != 0 {
			t.Errorf("GetJson(%.100q) = %s, %d, want %d", row.s, shortened(got), bad, row.bad)
		}
		checkGetJson(t, row.s)
	}
}

func TestGetJsonAtItsLimits(t *testing.T) {
	long := strings.Repeat("a", 1000)
	rows := map[string]struct {
		s    string
		want impl.Value
	}{
		"blanks ahead of a value":   {strings.Repeat(" ", 3999) + "1", integer(1)},
		"blanks behind a value":     {"true" + strings.Repeat("\n", 3996), yes},
		"four texts":                {`["` + strings.Join([]string{long, long, long, long[:987]}, `","`) + `"]`, list(text(long), text(long), text(long), text(long[:987]))},
		"a text of MaxBytes":        {`"` + long + long + `"`, text(long + long)},
		"a text of numbers":         {`"` + strings.Repeat(`\u0041`, 666) + `"  `, text(strings.Repeat("A", 666))},
		"MaxDeep levels":            {strings.Repeat("[", 13) + strings.Repeat("]", 13), wrapped(list(), 12)},
		"MaxDeep levels to a value": {strings.Repeat(`{"a":`, 11) + "[1]" + strings.Repeat("}", 11), deepMap(list(integer(1)), 11)},
		"MaxNodes":                  {"[" + strings.Repeat("1,", 298) + "1]", list(repeated(integer(1), 299)...)},
	}
	for why, row := range rows {
		checkJson(t, why, row.s, row.want)
		for _, blank := range []string{" ", "\n", "\r", "\t"} {
			padded := row.s + strings.Repeat(blank, 4000-len(row.s))
			checkJson(t, why+", of MaxJson", padded, row.want)
			checkJson(t, why+", of MaxJson + 1", padded+blank, impl.Value{})
			checkJson(t, why+", of MaxJson + 1", blank+padded, impl.Value{})
		}
	}
	if impl.MaxJson != 4000 {
		t.Error("MaxJson")
	}
}

// deepMap returns v within the given number of maps.
func deepMap(v impl.Value, levels int) impl.Value {
	for range levels {
		v = dict(text("a"), v)
	}
	return v
}

// Every sequence of a few pieces, with and without blanks between them.
func TestGetJsonOfPiecesInEveryOrder(t *testing.T) {
	pieces := []string{"[", "]", "{", "}", ":", ",", `"a"`, `"b`, "1", "-", "null", " "}
	var walk func(s string, spaced string, left int)
	walk = func(s string, spaced string, left int) {
		checkGetJson(t, s)
		checkGetJson(t, spaced)
		if left == 0 {
			return
		}
		for _, piece := range pieces {
			walk(s+piece, spaced+piece+" \n", left-1)
		}
	}
	walk("", "", 5)
	walk(`{"a":1`, `{ "a" : 1 `, 3)
	walk(`[{"a":[1,`, `[ { "a" : [ 1 , `, 3)
	walk(`{"a":{"b"`, `{ "a" : { "b" `, 3)
}

// Texts that are cut off, or in which one byte is missing, other or added.
func TestGetJsonOfChangedTexts(t *testing.T) {
	texts := []string{
		` { "a" : [ 1 , -2.50,"x\u000a", null,true ,false ] ,` + "\t" + `"b":{ },"c" :[` + "\n" + `] } `,
		`[[],{"k":{"l":[0.5e1,"\ud83d\ude00"]}},"` + "\u00e9" + `",-0]`,
		`{"a":1,"b":2,"c":"a"}`,
		"\r\n[null,[false,[true]]]\t",
		`"\\\"\/"`,
		"-12.5e-3",
	}
	with := "[]{}:,\"\\ \n\r\t0123456789-+.eEnulltruefalsabx\x00\x0b\x1f\x7f\xc3\xff"
	for _, s := range texts {
		if _, bad := impl.GetJson(s); bad != -1 {
			t.Fatalf("%q: %d", s, bad)
		}
		for i := range len(s) + 1 {
			checkGetJson(t, s[:i])
			checkGetJson(t, s[i:])
			for j := range len(with) {
				checkGetJson(t, s[:i]+with[j:j+1]+s[i:])
				if i < len(s) {
					checkGetJson(t, s[:i]+with[j:j+1]+s[i+1:])
				}
			}
			if i < len(s) {
				checkGetJson(t, s[:i]+s[i+1:])
			}
		}
	}
}

// plainByHand is Plain of a valid value, with a result that need not be valid.
func plainByHand(v impl.Value) impl.Value {
	switch v.Kind {
	case impl.VBytes:
		return text(fmt.Sprintf("%x", v.S))
	case impl.VTag:
		return plainByHand(v.Kids[0])
	}
	kids := []impl.Value{}
	keys := map[string]bool{}
	for i := 0; i < len(v.Kids); i++ {
		if v.Kind != impl.VMap {
			kids = append(kids, plainByHand(v.Kids[i]))
			continue
		}
		key := v.Kids[i].S
		if v.Kids[i].Kind == impl.VInt {
			key = fmt.Sprint(v.Kids[i].N)
		}
		i++
		if !keys[key] {
			kids = append(kids, text(key), plainByHand(v.Kids[i]))
		}
		keys[key] = true
	}
	v.Kids = kids
	return v
}

func TestPlain(t *testing.T) {
	half := strings.Repeat("\xab", 1000)
	rows := map[string]struct{ v, want impl.Value }{
		"null":                       {null, null},
		"a number":                   {decimal(15, -1), decimal(15, -1)},
		"a VInt that is no key":      {list(integer(1)), list(integer(1))},
		"a text":                     {text("\u00e9"), text("\u00e9")},
		"no bytes":                   {octets(""), text("")},
		"bytes":                      {octets("\x00a\xff"), text("0061ff")},
		"1000 bytes":                 {octets(half), text(strings.Repeat("ab", 1000))},
		"bytes far down":             {wrapped(octets("\xff"), 12), wrapped(text("ff"), 12)},
		"bytes in a map":             {dict(text("a"), octets("a")), dict(text("a"), text("61"))},
		"a tag":                      {tag(5, integer(7)), integer(7)},
		"tags within tags":           {tag(1, tag(2, tag(3, octets("\x01")))), text("01")},
		"12 tags":                    {tag(0, tag(1, tag(2, tag(3, tag(4, tag(5, tag(6, tag(7, tag(8, tag(9, tag(10, tag(11, yes)))))))))))), yes},
		"tags in lists in tags":      {tag(1, list(tag(2, list(tag(3, null))), null)), list(list(null), null)},
		"a tag in a map":             {dict(text("a"), tag(1, dict(integer(2), tag(3, octets("b"))))), dict(text("a"), dict(text("2"), text("62")))},
		"an empty list and map":      {list(list(), dict()), list(list(), dict())},
		"VInt keys":                  {dict(integer(0), null, integer(-1), yes, integer(-9223372036854775808), no), dict(text("0"), null, text("-1"), yes, text("-9223372036854775808"), no)},
		"a VInt key ahead of a text": {dict(integer(1), octets("\xff"), text("1"), yes, text("t"), tag(5, integer(7))), dict(text("1"), text("ff"), text("t"), integer(7))},
		"a VInt key behind a text":   {dict(text("1"), yes, integer(1), octets("\xff"), text("t"), no), dict(text("1"), yes, text("t"), no)},
		"a key that is near":         {dict(text("01"), yes, integer(1), no, text("+1"), null, text(" 1"), no), dict(text("01"), yes, text("1"), no, text("+1"), null, text(" 1"), no)},
		"two keys again":             {dict(integer(1), yes, integer(2), no, text("2"), null, text("1"), null, text("3"), null), dict(text("1"), yes, text("2"), no, text("3"), null)},
		"a key again further down":   {dict(integer(1), dict(integer(1), dict(text("1"), yes, integer(1), no))), dict(text("1"), dict(text("1"), dict(text("1"), yes)))},
		"a key again in two maps":    {list(dict(integer(1), yes), dict(text("1"), no)), list(dict(text("1"), yes), dict(text("1"), no))},
		"the order of pairs":         {dict(text("b"), null, integer(1), null, text("a"), null, integer(0), null), dict(text("b"), null, text("1"), null, text("a"), null, text("0"), null)},
		"149 pairs":                  {numbered(149), textNumbered(149)},
		"too long, but left out":     {dict(text("1"), yes, integer(1), list(octets(half+"a"))), dict(text("1"), yes)},
		"mixed": {mixed, dict(
			text("b"), list(integer(1), decimal(-15, -1), text("b"), text("ff")),
			text("3"), dict(text("z"), null, text("y"), no, text("-1"), yes),
			text("a"), dict(), text("-3"), list(), text(""), text("deep"),
		)},
	}
	for why, row := range rows {
		if !impl.ValueOk(row.v) {
			t.Fatalf("%s: invalid", why)
		}
		if got := impl.Plain(row.v); order(got, row.want) != 0 {
			t.Errorf("%s: Plain = %s", why, shortened(got))
		}
	}
}

func TestPlainOfInvalidValuesAndResults(t *testing.T) {
	long := octets(strings.Repeat("a", 1001))
	values := invalidValues()
	for i, v := range []impl.Value{long, octets(strings.Repeat("\xff", 2000)), tag(1, tag(2, long)), list(tag(1, null), octets("a"), long), dict(integer(1), octets("b"), integer(2), long)} {
		for j, with := range placed(v) {
			if !impl.ValueOk(with) {
				t.Fatal("invalid", i, j)
			}
			values[fmt.Sprint("too long ", i, " at place ", j)] = with
		}
	}
	for why, v := range values {
		if got := impl.Plain(v); order(got, v) != 0 {
			t.Errorf("%s: Plain = %s", why, shortened(got))
		}
	}
}

func TestPlainCanBeWritten(t *testing.T) {
	values := validValues()
	random := rand.New(rand.NewSource(5))
	for i := range 2000 {
		values["random "+strconv.Itoa(i)] = randomValue(random, 6, false)
	}
	for why, v := range values {
		plain := impl.Plain(v)
		want := plainByHand(v)
		if !impl.ValueOk(want) {
			want = v
		}
		if order(plain, want) != 0 {
			t.Errorf("%s: Plain = %s, want %s", why, shortened(plain), shortened(want))
		}
		if fitsByHand(v) && order(plain, v) != 0 {
			t.Errorf("%s: Plain of a value that fits = %s", why, shortened(plain))
		}
		if order(want, v) != 0 && (!impl.JsonFits(plain) || impl.PutJson(plain) == "") {
			t.Errorf("%s: Plain does not fit: %s", why, shortened(plain))
		}
		if impl.JsonFits(plain) {
			checkJson(t, why, impl.PutJson(plain), plain)
		}
		if order(impl.Plain(plain), plain) != 0 {
			t.Errorf("%s: Plain of Plain = %s", why, shortened(impl.Plain(plain)))
		}
	}
}

// blanksByHand works out Blanks as the document says it, from every double
// quote to the next one with an even number of backslashes ahead of it.
func blanksByHand(s string) string {
	out := ""
	for i := 0; i < len(s); i++ {
		if s[i] != '"' {
			if !strings.Contains(" \n\r\t", s[i:i+1]) {
				out += s[i : i+1]
			}
			continue
		}
		end := i + 1
		for ; end < len(s); end++ {
			before := s[i:end]
			slashes := len(before) - len(strings.TrimRight(before, `\`))
			if s[end] == '"' && slashes%2 == 0 {
				break
			}
		}
		out += s[i:min(end+1, len(s))]
		i = end
	}
	return out
}

func TestBlanks(t *testing.T) {
	rows := []struct{ s, want string }{
		{"\" a\\\" b\" c", "\" a\\\" b\"c"},
		{"", ""},
		{" \n\r\t", ""},
		{"a b\nc\rd\te", "abcde"},
		{"\x00 \x0b\x0c \x1f\x7f", "\x00\x0b\x0c\x1f\x7f"},
		{"\u00a0 \u2003 \u0085", "\u00a0\u2003\u0085"},
		{"\xff \xc3 ( \xa0", "\xff\xc3(\xa0"},
		{`{ "a" : [ 1 , " b " ] }`, `{"a":[1," b "]}`},
		{`" " " " `, `" "" "`},
		{`"" "" a`, `""""a`},
		{`" \n" ` + "\n", `" \n"`},
		{"\" \n\r\t\" \n\r\t", "\" \n\r\t\""},
		// One to four backslashes ahead of a double quote.
		{`" \" " b c`, `" \" "bc`},
		{`" \\" " b c`, `" \\"" b c`},
		{`" \\\" " b c`, `" \\\" "bc`},
		{`" \\\\" " b c`, `" \\\\"" b c`},
		{`"\" a b`, `"\" a b`},
		{`"\\" a b`, `"\\"ab`},
		{`"\a\" b" c`, `"\a\" b"c`},
		{`"\ " a b`, `"\ "ab`},
		{`"\ \" a b" c`, `"\ \" a b"c`},
		// Backslashes outside of a string are not ahead of its end.
		{`\" a " b`, `\" a "b`},
		{`\ " a " b`, `\" a "b`},
		{`\\" a " b`, `\\" a "b`},
		{`\"" a b`, `\""ab`},
		{`\"\" a " b`, `\"\" a "b`},
		// A string that does not end.
		{`"`, `"`},
		{` a " b c `, `a" b c `},
		{`" a " " b c `, `" a "" b c `},
		{`a " b\" c `, `a" b\" c `},
		{`a " b\`, `a" b\`},
		{"\" \n\t\xff ", "\" \n\t\xff "},
	}
	for _, row := range rows {
		if got := impl.Blanks(row.s); got != row.want {
			t.Errorf("Blanks(%q) = %q, want %q", row.s, got, row.want)
		}
	}
	for c := range 256 {
		s := string([]byte{byte(c)})
		want := s
		if c == ' ' || c == '\n' || c == 13 || c == 9 {
			want = ""
		}
		if got := impl.Blanks(s); got != want {
			t.Errorf("Blanks of the byte %d = %q", c, got)
		}
		if got := impl.Blanks(`"` + s + `"`); got != `"`+s+`"` {
			t.Errorf("Blanks of a string with the byte %d = %q", c, got)
		}
	}
}

func TestBlanksOfPiecesInEveryOrder(t *testing.T) {
	var walk func(s string, left int)
	walk = func(s string, left int) {
		if got := impl.Blanks(s); got != blanksByHand(s) {
			t.Fatalf("Blanks(%q) = %q, want %q", s, got, blanksByHand(s))
		}
		if left == 0 {
			return
		}
		for _, piece := range []string{`"`, `\`, " ", "\n", "a"} {
			walk(s+piece, left-1)
		}
	}
	walk("", 7)
	long := strings.Repeat("a \"b \\\" c\" ", 50000)
	if got := impl.Blanks(long); got != strings.Repeat("a\"b \\\" c\"", 50000) {
		t.Error("Blanks of a long text")
	}
}

func TestJsonArgumentsAreNotModified(t *testing.T) {
	for why, v := range bothKinds() {
		a := roomy(v)
		before := full(a)
		impl.JsonFits(a)
		impl.PutJson(a)
		impl.Pretty(a)
		impl.Plain(a)
		if order(full(a), before) != 0 {
			t.Errorf("%s: modified", why)
		}
	}
}

func TestJsonResultsShareNoMemory(t *testing.T) {
	same := []impl.Value{text("same"), list(null)}
	values := map[string]impl.Value{
		"mixed":                     mixed,
		"a value that fits":         dict(text("aa"), list(text("bb"), null), text("cc"), dict(text("dd"), list())),
		"one list twice":            list(list(same...), tag(1, list(same...)), dict(integer(5), list(same...))),
		"an invalid value":          list(text("\xff"), list(null, octets("cc"))),
		"a result that is too long": list(text("ff"), list(text("gg")), octets(strings.Repeat("a", 1001))),
		"a text":                    text("hh"),
		"a tag of a text":           tag(1, text("ii")),
	}
	for why, v := range values {
		v = roomy(v)
		checkNew(t, why+": Plain", impl.Plain(v), v)
		checkNewStrings(t, why+": PutJson", []string{impl.PutJson(v), impl.Pretty(v)}, v)
	}
	s := strings.Repeat("ab", 5)
	if sharesMemory(impl.Blanks(s), s) {
		t.Error("Blanks without blanks is its argument")
	}
	s = `{"key":["a text","another"],"other key":"a text"}`
	v, _ := impl.GetJson(s)
	checkApart(t, "GetJson", v, s)
	again, _ := impl.GetJson(s)
	checkNew(t, "GetJson", again, v)
}

// Values of many levels, and such as contain themselves, are invalid.
func TestJsonOfEndlessValues(t *testing.T) {
	defer debug.SetMaxStack(debug.SetMaxStack(4 << 20))
	deep := wrapped(text("a"), 200000)
	if impl.JsonFits(deep) || impl.PutJson(deep) != "" || impl.Pretty(deep) != "" || !impl.Same(impl.Plain(deep), deep) {
		t.Error("many levels")
	}
	kids := repeated(text("k"), 2)
	kids[1] = dict(text("k"), impl.Value{Kind: impl.VMap, Kids: kids})
	for _, v := range []impl.Value{dict(kids...), list(dict(kids...)), kids[1]} {
		bare := v
		bare.Kids = nil
		if impl.JsonFits(v) || impl.PutJson(v) != "" || impl.Pretty(v) != "" || !impl.Same(impl.Plain(v), bare) {
			t.Error("a value that contains itself")
		}
	}
}
