package impl

import (
	"strconv"
	"strings"
	"unicode/utf8"
)

const MaxSign = 1114111

// The numbers firstHigh..lastLow are no code points: JSON escapes use them in
// pairs, a high one and then a low one, for the code points from firstPaired on.
const (
	firstHigh   = 55296
	firstLow    = 56320
	lastLow     = 57343
	firstPaired = 65536
)

const hexDigits = "0123456789abcdef"

type shortEscape struct {
	sign   byte
	letter byte
}

// The short escapes that Quote writes. Unquote also accepts `\/`, which is not
// here because Quote leaves a slash as it is.
var shortEscapes = [7]shortEscape{
	{'"', '"'}, {'\\', '\\'}, {8, 'b'}, {12, 'f'}, {10, 'n'}, {13, 'r'}, {9, 't'},
}

func PutSign(n int) string {
	if n < 0 || n > MaxSign || isHalf(n) {
		return ""
	}
	return string(rune(n))
}

// isHalf reports whether n is one half of a pair of escapes.
func isHalf(n int) bool {
	return n >= firstHigh && n <= lastLow
}

func GetSign(s string, i int) (int, int) {
	if i < 0 || i >= len(s) {
		return -1, -1
	}
	sign, size := utf8.DecodeRuneInString(s[i:])
	// The code point RuneError has an encoding of its own, of three bytes;
	// with one byte it stands for a failure.
	if sign == utf8.RuneError && size == 1 {
		return -1, -1
	}
	return int(sign), i + size
}

func TextOk(s string) bool {
	return utf8.ValidString(s)
}

func Signs(s string) []int {
	signs := []int{}
	if !TextOk(s) {
		return signs
	}
	for _, sign := range s {
		signs = append(signs, int(sign))
	}
	return signs
}

func PutHex(s string) string {
	out := make([]byte, 0, 2*len(s))
	for i := 0; i < len(s); i++ {
		out = append(out, hexDigits[s[i]>>4], hexDigits[s[i]&15])
	}
	return string(out)
}

func GetHex(s string) (string, bool) {
	if len(s)%2 != 0 {
		return "", false
	}
	out := make([]byte, 0, len(s)/2)
	for i := 0; i < len(s); i += 2 {
		// PutHex writes lower-case digits only, so no other digits will do.
		high := strings.IndexByte(hexDigits, s[i])
		low := strings.IndexByte(hexDigits, s[i+1])
		if high < 0 || low < 0 {
			return "", false
		}
		out = append(out, byte(16*high+low))
	}
	return string(out), true
}

func DecText(n int) string {
	return strconv.Itoa(n)
}

func ReadDec(s string) (int, bool) {
	n, err := strconv.Atoi(s)
	// Atoi also reads notations that DecText does not write, such as +1, -0 and 01.
	if err != nil || DecText(n) != s {
		return 0, false
	}
	return n, true
}

func Words(s string) []string {
	words := strings.Split(s, " ")
	for i, word := range words {
		// The parts that Split returns lie in the memory of s.
		words[i] = strings.Clone(word)
	}
	return words
}

func Quote(s string) string {
	if !TextOk(s) {
		return ""
	}
	out := []byte{'"'}
	for _, sign := range s {
		out = appendQuoted(out, sign)
	}
	return string(append(out, '"'))
}

// appendQuoted appends a code point to out as it stands within a JSON string.
func appendQuoted(out []byte, sign rune) []byte {
	for _, e := range shortEscapes {
		if sign == rune(e.sign) {
			return append(out, '\\', e.letter)
		}
	}
	if sign < 32 {
		return append(out, '\\', 'u', '0', '0', hexDigits[sign>>4], hexDigits[sign&15])
	}
	return utf8.AppendRune(out, sign)
}

func Unquote(s string, i int) (string, int) {
	if i < 0 || i >= len(s) || s[i] != '"' {
		return "", -1
	}
	out := []byte{}
	i++
	for i < len(s) && s[i] != '"' {
		sign, next := getQuoted(s, i)
		if next < 0 {
			return "", -1
		}
		out = utf8.AppendRune(out, rune(sign))
		i = next
	}
	if i >= len(s) {
		return "", -1
	}
	return string(out), i + 1
}

// getQuoted returns the code point that stands or is escaped in s at index i,
// which is within s, and the index after it, or -1 and -1.
func getQuoted(s string, i int) (int, int) {
	if s[i] == '\\' {
		return getEscaped(s, i+1)
	}
	sign, next := GetSign(s, i)
	if sign < 32 {
		return -1, -1
	}
	return sign, next
}

// getEscaped is getQuoted for what follows a backslash.
func getEscaped(s string, i int) (int, int) {
	if i >= len(s) {
		return -1, -1
	}
	if s[i] == 'u' {
		return getNumbered(s, i+1)
	}
	if s[i] == '/' {
		return '/', i + 1
	}
	for _, e := range shortEscapes {
		if s[i] == e.letter {
			return int(e.sign), i + 1
		}
	}
	return -1, -1
}

// getNumbered is getQuoted for what follows `\u`: four digits, or the two
// escapes of a pair.
func getNumbered(s string, i int) (int, int) {
	first, next := getFourDigits(s, i)
	if !isHalf(first) {
		return first, next
	}
	if first >= firstLow || !strings.HasPrefix(s[next:], `\u`) {
		return -1, -1
	}
	second, end := getFourDigits(s, next+2)
	if second < firstLow || second > lastLow {
		return -1, -1
	}
	return firstPaired + 1024*(first-firstHigh) + (second - firstLow), end
}

// getFourDigits returns the number that four hexadecimal digits denote in s at
// index i, which is at most len(s), and the index after them, or -1 and -1.
func getFourDigits(s string, i int) (int, int) {
	if len(s)-i < 4 {
		return -1, -1
	}
	n := 0
	for _, digit := range []byte(s[i : i+4]) {
		value := hexValue(digit)
		if value < 0 {
			return -1, -1
		}
		n = 16*n + value
	}
	return n, i + 4
}

// hexValue returns the value of a hexadecimal digit of either case, or -1.
func hexValue(digit byte) int {
	if digit >= 'A' && digit <= 'F' {
		digit += 'a' - 'A'
	}
	return strings.IndexByte(hexDigits, digit)
}
