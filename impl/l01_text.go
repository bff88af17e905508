package impl

import (
	"strconv"
	"strings"
)

const (
	MaxInputLen      = 20000
	MaxUint          = 1000000000
	MaxLineLen       = 600
	MaxFieldsPerLine = 24
)

const hexDigits = "0123456789abcdef"

// EncodeHex returns the lowercase hexadecimal encoding of s; false if s is too long.
func EncodeHex(s string) (string, bool) {
	if len(s) > MaxInputLen {
		return "", false
	}
	digits := make([]byte, 0, 2*len(s))
	for i := range len(s) {
		digits = append(digits, hexDigits[s[i]/16], hexDigits[s[i]%16])
	}
	return string(digits), true
}

// DecodeHex returns the string whose EncodeHex is s; false if there is none.
func DecodeHex(s string) (string, bool) {
	if len(s)%2 != 0 || len(s)/2 > MaxInputLen {
		return "", false
	}
	decoded := make([]byte, 0, len(s)/2)
	for i := 0; i < len(s); i += 2 {
		high := strings.IndexByte(hexDigits, s[i])
		low := strings.IndexByte(hexDigits, s[i+1])
		if high < 0 || low < 0 {
			return "", false
		}
		decoded = append(decoded, byte(16*high+low))
	}
	return string(decoded), true
}

// FormatInt returns n in decimal.
func FormatInt(n int) string {
	return strconv.Itoa(n)
}

// ParseUint returns the number from 0 to MaxUint whose FormatInt is s; false if there is none.
func ParseUint(s string) (int, bool) {
	n, err := strconv.Atoi(s)
	if err != nil || n < 0 || n > MaxUint {
		return 0, false
	}
	// Atoi also reads signs and leading zeros, which FormatInt never writes.
	if FormatInt(n) != s {
		return 0, false
	}
	return n, true
}

// SplitFields returns the fields of a line, separated by spaces; false if the line is not valid.
func SplitFields(line string) ([]string, bool) {
	if len(line) > MaxLineLen || countValidBytes(line) < len(line) {
		return nil, false
	}
	// The space is the only white space among the valid bytes.
	fields := strings.Fields(line)
	if len(fields) > MaxFieldsPerLine {
		return nil, false
	}
	for i, field := range fields {
		// A result shares no memory with an argument, and Fields cuts parts out of the line.
		fields[i] = strings.Clone(field)
	}
	return fields, true
}

// countValidBytes returns how many bytes of line come before the first one that is not valid.
func countValidBytes(line string) int {
	count := 0
scan:
	for count < len(line) {
		switch b := line[count]; {
		case b < ' ', b > '~':
			break scan
		default:
			count++
		}
	}
	return count
}

// Clamp returns n clamped to the range low to high; low if high is less than low.
func Clamp(n int, low int, high int) int {
	// The lower limit is applied last, so that it prevails over a high that is less.
	return max(low, min(n, high))
}
