package tests

import (
	"fmt"
	"math"
	"math/big"
	"reflect"
	"regexp"
	"slices"
	"strconv"
	"strings"
	"testing"

	"loop.example/g00421/impl"
)

// The tests of chapter 3 (promise 3). The expected results are worked out here
// with fractions of any size.

// fraction returns n * 10^e.
func fraction(n *big.Int, e int) *big.Rat {
	power := new(big.Int).Exp(big.NewInt(10), big.NewInt(int64(max(e, -e))), nil)
	if e < 0 {
		return new(big.Rat).SetFrac(n, power)
	}
	return new(big.Rat).SetInt(power.Mul(power, n))
}

func fractionOf(v impl.Value) *big.Rat {
	return fraction(big.NewInt(int64(v.N)), v.E)
}

// numberOf looks for the valid VInt or VDec that is the number r.
func numberOf(r *big.Rat) (impl.Value, bool) {
	if r.IsInt() && r.Num().IsInt64() {
		return integer(int(r.Num().Int64())), true
	}
	for e := -20; e <= 20; e++ {
		n := new(big.Rat).Mul(r, fraction(big.NewInt(1), -e))
		if n.IsInt() && n.Num().IsInt64() && decimalOk(int(n.Num().Int64()), e) {
			return decimal(int(n.Num().Int64()), e), true
		}
	}
	return impl.Value{}, false
}

// edgeNumbers are integers of every length, near the ends of their ranges.
func edgeNumbers() []int {
	numbers := []int{0, 5, 15, 25, 120, 1500, math.MinInt, math.MinInt + 1, math.MinInt + 8, math.MaxInt, math.MaxInt - 1, math.MaxInt - 7, math.MaxInt/10 + 1, math.MinInt/10 - 1}
	for power := 1; ; power *= 10 {
		for near := -1; near <= 1; near++ {
			numbers = append(numbers, power+near, -power+near, 9*power+near, math.MaxInt/power+near, math.MinInt/power+near)
		}
		if power == 1000000000000000000 {
			break
		}
	}
	slices.Sort(numbers)
	return slices.Compact(numbers)
}

// edgeDecimals are valid numbers of both kinds.
func edgeDecimals() []impl.Value {
	values := []impl.Value{}
	for _, n := range edgeNumbers() {
		values = append(values, integer(n))
		for _, e := range []int{-20, -19, -18, -17, -10, -3, -2, -1, 1, 2, 17, 18, 19, 20} {
			if decimalOk(n, e) {
				values = append(values, decimal(n, e))
			}
		}
	}
	return values
}

func sameValue(a impl.Value, b impl.Value) bool {
	return order(a, b) == 0 && len(a.Kids) == 0
}

func TestNorm(t *testing.T) {
	rows := []struct {
		n, e int
		want impl.Value
	}{
		{1500, -2, integer(15)},
		{-15, -1, decimal(-15, -1)},
		{0, 0, integer(0)},
		{0, -1, integer(0)},
		{0, 1, integer(0)},
		{0, 1000, integer(0)},
		{0, -1000, integer(0)},
		{15, 0, integer(15)},
		{10, 0, integer(10)},
		{10, -1, integer(1)},
		{10, -2, decimal(1, -1)},
		{-1500, -3, decimal(-15, -1)},
		{15, 3, integer(15000)},
		{10, 19, decimal(1, 20)},
		{1, 18, integer(1000000000000000000)},
		{1, 19, decimal(1, 19)},
		{-1, 19, decimal(-1, 19)},
		{9, 18, integer(9000000000000000000)},
		{92, 17, integer(9200000000000000000)},
		{93, 17, decimal(93, 17)},
		{922337203685477580, 1, integer(9223372036854775800)},
		{922337203685477581, 1, decimal(922337203685477581, 1)},
		{-922337203685477580, 1, integer(-9223372036854775800)},
		{-922337203685477581, 1, decimal(-922337203685477581, 1)},
		{math.MaxInt, 0, integer(math.MaxInt)},
		{math.MinInt, 0, integer(math.MinInt)},
		{1000000000000000000, -38, decimal(1, -20)},
		{1000000000000000000, -18, integer(1)},
		{999999999999999999, -20, decimal(999999999999999999, -20)},
		{-999999999999999999, 20, decimal(-999999999999999999, 20)},
		{9223372036854775800, -2, integer(92233720368547758)},
		{9223372036854775800, -3, decimal(92233720368547758, -1)},
		{9223372036854775800, 1, decimal(92233720368547758, 3)},
	}
	for _, row := range rows {
		if got, ok := impl.Norm(row.n, row.e); !ok || !sameValue(got, row.want) {
			t.Errorf("Norm(%d, %d) = %+v, %v", row.n, row.e, got, ok)
		}
	}
}

func TestNormOfNeither(t *testing.T) {
	rows := [][2]int{
		{1, 21}, {-1, 21}, {1, -21}, {10, 20}, {100, 19}, {10, -22}, {1, 1000}, {1, -1000}, {1000000000000000000, -1000},
		{math.MaxInt, -1}, {math.MinInt, -1}, {math.MaxInt, 1}, {math.MinInt, 1}, {1000000000000000001, -1}, {1000000000000000001, 1},
		{1000000000000000000, 3}, {1000000000000000000, -39},
		{0, 1001}, {0, -1001}, {1, 1001}, {10, -1001}, {1, -1001}, {0, math.MaxInt}, {0, math.MinInt}, {10, math.MaxInt}, {10, math.MinInt}, {1, math.MaxInt}, {1, math.MinInt},
	}
	for _, row := range rows {
		if got, ok := impl.Norm(row[0], row[1]); ok || !reflect.DeepEqual(got, impl.Value{}) {
			t.Errorf("Norm(%d, %d) = %+v, %v", row[0], row[1], got, ok)
		}
	}
}

func checkNorm(t *testing.T, n int, e int) {
	t.Helper()
	want, wantOk := impl.Value{}, false
	if e >= -1000 && e <= 1000 {
		want, wantOk = numberOf(fraction(big.NewInt(int64(n)), e))
	}
	if got, ok := impl.Norm(n, e); ok != wantOk || !sameValue(got, want) {
		t.Fatalf("Norm(%d, %d) = %+v, %v, not %+v, %v", n, e, got, ok, want, wantOk)
	}
}

func TestNormOfEdgeNumbers(t *testing.T) {
	for _, n := range edgeNumbers() {
		for e := -42; e <= 24; e++ {
			checkNorm(t, n, e)
		}
		checkNorm(t, n, 1000)
		checkNorm(t, n, -1000)
	}
	for _, n := range []int{0, 1, -10, math.MinInt} {
		for e := -1003; e <= 1003; e += 3 {
			checkNorm(t, n, e)
		}
	}
	for n := -2100; n <= 2100; n++ {
		for _, e := range []int{-23, -22, -20, -3, -2, -1, 0, 1, 16, 19, 20} {
			checkNorm(t, n, e)
		}
	}
}

func TestNumText(t *testing.T) {
	rows := []struct {
		v    impl.Value
		want string
	}{
		{integer(0), "0"},
		{integer(-15), "-15"},
		{integer(1000), "1000"},
		{integer(math.MaxInt), "9223372036854775807"},
		{integer(math.MinInt), "-9223372036854775808"},
		{impl.Value{Kind: impl.VInt, N: 7, Kids: []impl.Value{}}, "7"},
		{decimal(15, -1), "1.5"},
		{decimal(-15, -1), "-1.5"},
		{decimal(15, -2), "0.15"},
		{decimal(-15, -2), "-0.15"},
		{decimal(15, -3), "0.015"},
		{decimal(-5, -2), "-0.05"},
		{decimal(1, -1), "0.1"},
		{decimal(1005, -2), "10.05"},
		{decimal(1, -20), "0.00000000000000000001"},
		{decimal(-1, -20), "-0.00000000000000000001"},
		{decimal(999999999999999999, -1), "99999999999999999.9"},
		{decimal(999999999999999999, -17), "9.99999999999999999"},
		{decimal(999999999999999999, -18), "0.999999999999999999"},
		{decimal(-999999999999999999, -20), "-0.00999999999999999999"},
		{decimal(1, 19), "1e19"},
		{decimal(15, 19), "15e19"},
		{decimal(-15, 20), "-15e20"},
		{decimal(922337203685477581, 1), "922337203685477581e1"},
		{decimal(-999999999999999999, 20), "-999999999999999999e20"},
	}
	for _, row := range rows {
		if got := impl.NumText(row.v); got != row.want {
			t.Errorf("NumText of %+v = %q, not %q", row.v, got, row.want)
		}
	}
}

// The one form of a notation: no exponent beside a point, no `+`, and no zero
// that could be left out.
var written = regexp.MustCompile(`^(0|-?[1-9][0-9]*|-?(0|[1-9][0-9]*)\.[0-9]*[1-9]|-?[1-9]([0-9]*[1-9])?e[1-9][0-9]*)$`)

func TestNumbersAreRecovered(t *testing.T) {
	owners := map[string]impl.Value{}
	for _, v := range edgeDecimals() {
		s := impl.NumText(v)
		if r, ok := new(big.Rat).SetString(s); !ok || !written.MatchString(s) || r.Cmp(fractionOf(v)) != 0 {
			t.Fatalf("NumText of %+v = %q", v, s)
		}
		if other, taken := owners[s]; taken {
			t.Fatalf("%+v and %+v are both written %q", v, other, s)
		}
		owners[s] = v
		for _, around := range [][2]string{{"", ""}, {"1", ","}, {"-", "]"}, {"e", "-"}, {"\xff", "."}, {"0.", "e"}, {"", "E+"}} {
			i := len(around[0])
			if got, next := impl.ReadNum(around[0]+s+around[1], i); next != i+len(s) || !sameValue(got, v) {
				t.Fatalf("ReadNum of %q between %q = %+v, %d", s, around, got, next)
			}
		}
	}
}

var jsonNumber = regexp.MustCompile(`^(-?)(0|[1-9][0-9]*)(?:\.([0-9]+))?(?:[eE]([+-]?[0-9]+))?`)

// numberAt is ReadNum by the rules of the document, one by one.
func numberAt(s string, i int) (impl.Value, int) {
	if i < 0 || i > len(s) {
		return impl.Value{}, -1
	}
	parts := jsonNumber.FindStringSubmatch(s[i:])
	if parts == nil || len(parts[0]) > 60 {
		return impl.Value{}, -1
	}
	next := i + len(parts[0])
	if len(strings.Trim(parts[2]+parts[3], "0")) > 18 {
		n, err := strconv.Atoi(parts[0])
		if err != nil || strconv.Itoa(n) != parts[0] {
			return impl.Value{}, -1
		}
		return integer(n), next
	}
	digits, _ := new(big.Int).SetString(parts[1]+parts[2]+parts[3], 10)
	exponent := new(big.Int)
	if parts[4] != "" {
		exponent.SetString(parts[4], 10)
	}
	exponent.Sub(exponent, big.NewInt(int64(len(parts[3]))))
	if exponent.CmpAbs(big.NewInt(1000)) > 0 {
		return impl.Value{}, -1
	}
	v, ok := numberOf(fraction(digits, int(exponent.Int64())))
	if !ok {
		return impl.Value{}, -1
	}
	return v, next
}

func checkReadNum(t *testing.T, s string, i int) {
	t.Helper()
	want, wantNext := numberAt(s, i)
	if got, next := impl.ReadNum(s, i); next != wantNext || !sameValue(got, want) {
		t.Fatalf("ReadNum(%q, %d) = %+v, %d, not %+v, %d", s, i, got, next, want, wantNext)
	}
}

func TestReadNum(t *testing.T) {
	zeros := func(many int) string { return strings.Repeat("0", many) }
	rows := []struct {
		s    string
		i    int
		want impl.Value
		next int
	}{
		{"0", 0, integer(0), 1},
		{"-0", 0, integer(0), 2},
		{"-0.0e-0", 0, integer(0), 7},
		{"00", 0, integer(0), 1},
		{"007", 0, integer(0), 1},
		{"007", 1, integer(0), 2},
		{"007", 2, integer(7), 3},
		{"-01", 0, integer(0), 2},
		{"a-12b", 1, integer(-12), 4},
		{"a-12b", 2, integer(12), 4},
		{"a-12b", 3, integer(2), 4},
		{"1.5", 1, impl.Value{}, -1},
		{"1.5", 2, integer(5), 3},
		{"1.50", 0, decimal(15, -1), 4},
		{"1.00", 0, integer(1), 4},
		{"1.05", 0, decimal(105, -2), 4},
		{"1.", 0, integer(1), 1},
		{"1.e5", 0, integer(1), 1},
		{"1.-5", 0, integer(1), 1},
		{"0.", 0, integer(0), 1},
		{"-0.a", 0, integer(0), 2},
		{"1e", 0, integer(1), 1},
		{"1E", 0, integer(1), 1},
		{"1e+", 0, integer(1), 1},
		{"1e-", 0, integer(1), 1},
		{"1e-+5", 0, integer(1), 1},
		{"1e+-5", 0, integer(1), 1},
		{"1e--5", 0, integer(1), 1},
		{"1e++5", 0, integer(1), 1},
		{"1.5e", 0, decimal(15, -1), 3},
		{"1.5e+x", 0, decimal(15, -1), 3},
		{"1e5", 0, integer(100000), 3},
		{"1E5", 0, integer(100000), 3},
		{"1e+5", 0, integer(100000), 4},
		{"1E+5", 0, integer(100000), 4},
		{"1e-5", 0, decimal(1, -5), 4},
		{"1E-5", 0, decimal(1, -5), 4},
		{"1e5.5", 0, integer(100000), 3},
		{"1e5e5", 0, integer(100000), 3},
		{"1e005", 0, integer(100000), 5},
		{"1e-0", 0, integer(1), 4},
		{"-15e19", 0, decimal(-15, 19), 6},
		{"150e18", 0, decimal(15, 19), 6},
		{"0.15E+21", 0, decimal(15, 19), 8},
		{"1e20", 0, decimal(1, 20), 4},
		{"1e-20", 0, decimal(1, -20), 5},
		{"0e1000", 0, integer(0), 6},
		{"0e-1000", 0, integer(0), 7},
		{"1" + zeros(18), 0, integer(1000000000000000000), 19},
		{"1" + zeros(19), 0, decimal(1, 19), 20},
		{"1" + zeros(20), 0, decimal(1, 20), 21},
		{"1" + zeros(58) + "e-40", 0, impl.Value{}, -1},
		{"-1" + zeros(54) + "e-40", 0, integer(-100000000000000), 60},
		{"1" + zeros(55) + "e-40", 0, integer(1000000000000000), 60},
		{"1" + zeros(56) + "e-40", 0, impl.Value{}, -1},
		{"0." + zeros(58), 0, integer(0), 60},
		{"0." + zeros(58) + ".", 0, integer(0), 60},
		{"0." + zeros(58) + "e", 0, integer(0), 60},
		{"0." + zeros(59), 0, impl.Value{}, -1},
		{"0." + zeros(58) + "1", 0, impl.Value{}, -1},
		{"0." + zeros(54) + "1e35", 0, decimal(1, -20), 60},
		{"0." + zeros(55) + "1e36", 0, impl.Value{}, -1},
		{"1e" + zeros(57) + "5", 0, integer(100000), 60},
		{"1e" + zeros(58) + "5", 0, impl.Value{}, -1},
		{"xx1e" + zeros(57) + "5", 2, integer(100000), 62},
		{"1e" + zeros(57) + "e", 0, integer(1), 59},
		{strings.Repeat("1", 61), 0, impl.Value{}, -1},
		{"123456789012345678", 0, integer(123456789012345678), 18},
		{"123456789012345678.000", 0, integer(123456789012345678), 22},
		{"123456789012345678000", 0, decimal(123456789012345678, 3), 21},
		{"12345678901234567.8", 0, decimal(123456789012345678, -1), 19},
		{"0.00123456789012345678", 0, decimal(123456789012345678, -20), 22},
		{"-0.123456789012345678e38", 0, decimal(-123456789012345678, 20), 24},
		{"1234567890123456789", 0, integer(1234567890123456789), 19},
		{"-1234567890123456789", 0, integer(-1234567890123456789), 20},
		{"a1234567890123456789b", 1, integer(1234567890123456789), 20},
		{"1234567890123456789.", 0, integer(1234567890123456789), 19},
		{"1234567890123456789e", 0, integer(1234567890123456789), 19},
		{"1234567890123456789e+", 0, integer(1234567890123456789), 19},
		{"1000000000000000001", 0, integer(1000000000000000001), 19},
		{"9223372036854775807", 0, integer(math.MaxInt), 19},
		{"-9223372036854775808", 0, integer(math.MinInt), 20},
		{"9223372036854775800.00", 0, integer(9223372036854775800), 22},
		{"92233720368547758.07e2", 0, impl.Value{}, -1},
		{"9223372036854775800e0", 0, integer(9223372036854775800), 21},
	}
	for _, row := range rows {
		if got, next := impl.ReadNum(row.s, row.i); next != row.next || !sameValue(got, row.want) {
			t.Errorf("ReadNum(%q, %d) = %+v, %d", row.s, row.i, got, next)
		}
		checkReadNum(t, row.s, row.i)
	}
}

func TestReadNumRejects(t *testing.T) {
	none := []string{
		"", "-", "--1", "-a", "-.5", ".5", "+1", "a", "e5", "E", " 1", "\xff", "\u0661", "/", ":", "NaN", "Infinity",
		"1e21", "-1e21", "1e-21", "0.000000000000000000001", "1e40", "1e400", "1e-400", "1e1000", "1e1001", "1e-1001", "10e1000",
		"0e1001", "0e-1001", "0.0e-1000", "-0e99999",
		"1e2147483648", "1e-2147483648", "1e4294967296", "1e4294967297", "1e-4294967297", "0e4294967296", "1e42949672960",
		"1e9223372036854775807", "1e18446744073709551616", "1e18446744073709551617", "1e-18446744073709551616", "0e18446744073709551616", "1e184467440737095516160",
		"1e99999999999999999999999999999999999999999999999999999",
		"9223372036854775808", "-9223372036854775809", "9999999999999999999", "12345678901234567891", "18446744073709551617", "18446744073709551616",
		"1234567890123456789.0", "1234567890123456789e0", "1234567890123456789E-1", "1234567890123456789.5", "-1234567890123456789.0",
		"9223372036854775807.0", "9223372036854775807e0", "-9223372036854775808e0", "-9223372036854775808.0",
		"1000000000000000001.0", "100000000000000000.01", "1.000000000000000001", "0.1234567890123456789", "12345678901234567890", "-12345678901234567890",
		"1234567890123456789000e-3",
	}
	for _, s := range none {
		for _, around := range [][2]string{{"", ""}, {"7", ""}, {"", " "}} {
			i := len(around[0])
			if got, next := impl.ReadNum(around[0]+s+around[1], i); next != -1 || !reflect.DeepEqual(got, impl.Value{}) {
				t.Errorf("ReadNum(%q, %d) = %+v, %d", around[0]+s+around[1], i, got, next)
			}
		}
	}
	for _, s := range []string{"", "1", "-15e19"} {
		for _, i := range append([]int{len(s), len(s) + 1, len(s) + 100}, oddIndexes...) {
			if got, next := impl.ReadNum(s, i); next != -1 || !reflect.DeepEqual(got, impl.Value{}) {
				t.Errorf("ReadNum(%q, %d) = %+v, %d", s, i, got, next)
			}
		}
	}
}

// ReadNum of all strings of up to five of the bytes that matter.
func TestReadNumOfShortStrings(t *testing.T) {
	all := []string{""}
	for size := 0; size <= 5; size++ {
		longer := []string{}
		for _, s := range all {
			checkReadNum(t, s, 0)
			if size < 5 {
				for _, c := range "-+.eE0159 " {
					longer = append(longer, s+string(c))
				}
			}
		}
		all = longer
	}
}

func TestReadNumOfEveryByte(t *testing.T) {
	for c := range 256 {
		one := string([]byte{byte(c)})
		for _, s := range []string{one, "-" + one, "1" + one, "1." + one, "1e" + one, "1" + one + "5", "1.5" + one + "2", "1e" + one + "2", "0" + one} {
			checkReadNum(t, s, 0)
		}
	}
}

func TestReadNumOfPieces(t *testing.T) {
	wholes := []string{"0", "1", "10", "900", "123456789", "99999999999999999", "100000000000000000", "123456789012345678", "999999999999999999", "1000000000000000000", "1234567890123456789", "9223372036854775807", "9223372036854775808", "9223372036854775809", "12345678901234567800", "98765432109876543210"}
	fractions := []string{"", ".0", ".5", ".50", ".05", ".000", ".00000000000000000001", ".123456789012345678", ".1234567890123456789", ".999999999999999999000", "." + strings.Repeat("0", 40), "." + strings.Repeat("0", 37) + "25"}
	exponents := []string{"", "e0", "E1", "e+2", "e-1", "E-18", "e18", "e19", "e20", "e21", "e-20", "e-21", "e38", "e40", "e-40", "e0020", "e999", "e1000", "e1001", "e-1000", "e-1001", "e-960", "e1040", "e1041", "e99999999999", "e-99999999999"}
	for _, sign := range []string{"", "-"} {
		for _, whole := range wholes {
			for _, behind := range fractions {
				for _, exponent := range exponents {
					s := sign + whole + behind + exponent
					checkReadNum(t, s, 0)
					checkReadNum(t, "8"+s+"x", 1)
				}
			}
		}
	}
}

// Notations of 56 to 63 bytes, made longer in each of their parts.
func TestReadNumOfLongNotations(t *testing.T) {
	for _, parts := range [][2]string{{"0.", ""}, {"-0.", "15e50"}, {"1", "e-40"}, {"-12", ".5e-45"}, {"1.5", ""}, {"1.", "e-3"}, {"25e", "3"}, {"25e-", "3"}, {"-25E+", "0"}, {"1", ""}, {"0.", "1"}} {
		for size := 56; size <= 63; size++ {
			s := parts[0] + strings.Repeat("0", size-len(parts[0])-len(parts[1])) + parts[1]
			for _, after := range []string{"", "e", ".", "e+", " ", "0"} {
				checkReadNum(t, s+after, 0)
				checkReadNum(t, "00"+s+after, 2)
			}
		}
	}
}

// Integers of 18 to 20 digits, with and without what keeps them from being a
// DecText.
func TestReadNumOfLongIntegers(t *testing.T) {
	ends := []*big.Int{}
	for _, s := range []string{"100000000000000000", "999999999999999999", "1000000000000000000", "9223372036854775807", "9999999999999999999", "18446744073709551616", "27670116110564327423"} {
		n, _ := new(big.Int).SetString(s, 10)
		ends = append(ends, n, new(big.Int).Neg(n))
	}
	for _, end := range ends {
		for near := int64(-25); near <= 25; near++ {
			s := new(big.Int).Add(end, big.NewInt(near)).String()
			for _, after := range []string{"", ".0", "e0", "e1", "E-1", ".5", ".", "e", ",", "0", "00"} {
				checkReadNum(t, s+after, 0)
			}
		}
	}
}

// Whatever the notations of a number, it is read as one value with one NumText.
func TestEqualNumbersHaveOneNotation(t *testing.T) {
	found := map[string]impl.Value{}
	groups := map[string]int{}
	for _, sign := range []string{"", "-"} {
		for _, digits := range []string{"0", "5", "10", "15", "150", "1005", "99999", "123456789012345678", "100000000000000000"} {
			for point := 1; point <= len(digits); point++ {
				for e := -25; e <= 25; e++ {
					s := sign + digits[:point] + "." + digits[point:] + "0e" + strconv.Itoa(e)
					r, ok := new(big.Rat).SetString(s)
					v, next := impl.ReadNum(s, 0)
					if _, valid := numberOf(r); !ok || valid != (next == len(s)) {
						t.Fatalf("ReadNum(%q, 0) = %+v, %d", s, v, next)
					}
					if next < 0 {
						continue
					}
					key := r.RatString()
					if other, known := found[key]; known && (!sameValue(v, other) || impl.CompareNum(v, other) != 0 || impl.NumText(v) != impl.NumText(other)) {
						t.Fatalf("%q is %+v, but also %+v", s, v, other)
					}
					found[key] = v
					groups[key]++
				}
			}
		}
	}
	if len(groups) < 400 || groups["0"] < 100 || groups["15"] < 5 {
		t.Error("too few notations", len(groups), groups["0"], groups["15"])
	}
}

func TestCompareNum(t *testing.T) {
	ascending := []impl.Value{
		decimal(-999999999999999999, 20), decimal(-1, 20), decimal(-922337203685477581, 1),
		integer(math.MinInt), integer(math.MinInt + 1), integer(-10), decimal(-999999999999999999, -17), integer(-9), decimal(-25, -1), integer(-2), decimal(-19, -1), decimal(-1, -1), decimal(-1, -20),
		integer(0), decimal(1, -20), decimal(9, -20), decimal(1, -19), decimal(11, -20), decimal(1, -1), decimal(19, -1), integer(2), decimal(25, -1), integer(9), decimal(999999999999999999, -17), integer(10),
		integer(math.MaxInt - 1), integer(math.MaxInt), decimal(922337203685477581, 1), decimal(93, 17), decimal(1, 19), decimal(11, 18), decimal(1, 20), decimal(999999999999999999, 20),
	}
	checkAscending(t, ascending, impl.CompareNum)
}

func TestTheOrderOfNumbersIsTotal(t *testing.T) {
	values := edgeDecimals()
	numbers := []*big.Int{}
	for _, v := range values {
		numbers = append(numbers, fraction(big.NewInt(int64(v.N)), v.E+20).Num())
	}
	step := 1 + len(values)/300
	for i := range values {
		for j := i % step; j < len(values); j += step {
			want := numbers[i].Cmp(numbers[j])
			if got := impl.CompareNum(values[i], values[j]); got != want || (got == 0) != impl.Same(values[i], values[j]) {
				t.Fatalf("CompareNum of %+v, %+v = %d, not %d", values[i], values[j], got, want)
			}
		}
		if impl.CompareNum(values[i], values[i]) != 0 {
			t.Fatalf("CompareNum of %+v with itself", values[i])
		}
	}
}

func TestWhole(t *testing.T) {
	rows := []struct {
		v    impl.Value
		want int
	}{
		{integer(0), 0},
		{integer(-3), -3},
		{integer(math.MaxInt), math.MaxInt},
		{integer(math.MinInt), math.MinInt},
		{decimal(25, -1), 2},
		{decimal(29, -1), 2},
		{decimal(-25, -1), -3},
		{decimal(-21, -1), -3},
		{decimal(-29, -1), -3},
		{decimal(-1, -1), -1},
		{decimal(-1, -20), -1},
		{decimal(1, -20), 0},
		{decimal(-1001, -2), -11},
		{decimal(-1001, -3), -2},
		{decimal(-1999, -3), -2},
		{decimal(-10001, -4), -2},
		{decimal(-9, -1), -1},
		{decimal(9, -1), 0},
		{decimal(999999999999999999, -1), 99999999999999999},
		{decimal(-999999999999999999, -1), -100000000000000000},
		{decimal(999999999999999999, -18), 0},
		{decimal(-999999999999999999, -18), -1},
		{decimal(-999999999999999999, -20), -1},
	}
	for _, row := range rows {
		if got, ok := impl.Whole(row.v); !ok || got != row.want {
			t.Errorf("Whole of %+v = %d, %v", row.v, got, ok)
		}
	}
	for _, v := range []impl.Value{decimal(1, 19), decimal(-1, 19), decimal(1, 20), decimal(922337203685477581, 1), decimal(-922337203685477581, 1), decimal(93, 17)} {
		if got, ok := impl.Whole(v); ok || got != 0 {
			t.Errorf("Whole of %+v = %d, %v", v, got, ok)
		}
	}
}

func TestWholeOfEdgeNumbers(t *testing.T) {
	for _, v := range edgeDecimals() {
		r := fractionOf(v)
		// Div rounds down, as the denominator is positive.
		floor := new(big.Int).Div(r.Num(), r.Denom())
		got, ok := impl.Whole(v)
		if ok != floor.IsInt64() || ok && int64(got) != floor.Int64() || !ok && got != 0 {
			t.Fatalf("Whole of %+v = %d, %v, not %s", v, got, ok, floor)
		}
		n := integer(got)
		if ok && (impl.CompareNum(n, v) > 0 || got < math.MaxInt && impl.CompareNum(integer(got+1), v) <= 0) {
			t.Fatalf("Whole of %+v = %d by CompareNum", v, got)
		}
	}
}

// notNumbers are the values that are no valid numbers.
func notNumbers() map[string]impl.Value {
	values := invalidValues()
	for why, v := range validValues() {
		if v.Kind != impl.VInt && v.Kind != impl.VDec {
			values["valid: "+why] = v
		}
	}
	for _, e := range []int{-1, 1, 19, math.MinInt, math.MaxInt} {
		values[fmt.Sprint("a VInt with E ", e)] = impl.Value{Kind: impl.VInt, N: 15, E: e}
	}
	kids := repeated(integer(1), 2)
	kids[1].Kids = kids
	values["a VInt that contains itself"] = kids[1]
	values["a VDec of many levels"] = impl.Value{Kind: impl.VDec, N: 1, E: -1, Kids: []impl.Value{wrapped(null, 100000)}}
	return values
}

func TestNoNumbers(t *testing.T) {
	bad := notNumbers()
	for why, v := range bad {
		if got := impl.NumText(v); got != "" {
			t.Errorf("%s: NumText = %q", why, got)
		}
		if got, ok := impl.Whole(v); ok || got != 0 {
			t.Errorf("%s: Whole = %d, %v", why, got, ok)
		}
		for _, number := range []impl.Value{integer(0), integer(math.MinInt), integer(5), decimal(-15, -1), decimal(1, 20), v, {Kind: 10}} {
			if a, b := impl.CompareNum(v, number), impl.CompareNum(number, v); a != 2 || b != 2 {
				t.Errorf("%s: CompareNum = %d, %d", why, a, b)
			}
		}
	}
}

func TestNumberArgumentsAreNotModified(t *testing.T) {
	for _, v := range []impl.Value{integer(5), decimal(-15, -1), decimal(15, 19), {Kind: impl.VInt, N: 5, Kids: []impl.Value{}}, {Kind: impl.VDec, N: 10, E: -1, S: "s", Kids: []impl.Value{null, list(yes)}}, mixed} {
		a, b := roomy(v), roomy(v)
		before := full(a)
		impl.NumText(a)
		impl.CompareNum(a, b)
		impl.CompareNum(b, a)
		impl.CompareNum(a, a)
		impl.Whole(a)
		if order(full(a), before) != 0 || order(full(b), before) != 0 {
			t.Errorf("%+v is modified", v)
		}
	}
}
