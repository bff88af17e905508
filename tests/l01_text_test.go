package tests

import (
	"math"
	"slices"
	"strconv"
	"strings"
	"testing"
	"unsafe"

	"loop.example/g03300/impl"
)

// allBytes has each byte once, in ascending order.
func allBytes() string {
	b := make([]byte, 256)
	for i := range b {
		b[i] = byte(i)
	}
	return string(b)
}

func TestTextLimits(t *testing.T) {
	got := []int{impl.MaxInputLen, impl.MaxUint, impl.MaxLineLen, impl.MaxFieldsPerLine}
	if want := []int{20000, 1000000000, 600, 24}; !slices.Equal(got, want) {
		t.Errorf("limits are %v, want %v", got, want)
	}
}

func TestEncodeHex(t *testing.T) {
	full := strings.Repeat("k", impl.MaxInputLen)
	cases := []struct {
		s    string
		want string
		ok   bool
	}{
		{"", "", true},
		{"az", "617a", true},
		{"\x0f\xf0", "0ff0", true},
		{"\x00\x09\x0a\x7f\x80\xff", "00090a7f80ff", true},
		{"é", "c3a9", true},
		{full, strings.Repeat("6b", impl.MaxInputLen), true},
		{full + "k", "", false},
		{full + full, "", false},
	}
	for _, c := range cases {
		if got, ok := impl.EncodeHex(c.s); got != c.want || ok != c.ok {
			t.Errorf("EncodeHex of %d bytes %.12q: %.24q %v, want %.24q %v", len(c.s), c.s, got, ok, c.want, c.ok)
		}
	}
}

func TestDecodeHex(t *testing.T) {
	full := strings.Repeat("6b", impl.MaxInputLen)
	cases := []struct {
		s    string
		want string
		ok   bool
	}{
		{"", "", true},
		{"617a", "az", true},
		{"0ff0", "\x0f\xf0", true},
		{"00ff", "\x00\xff", true},
		{full, strings.Repeat("k", impl.MaxInputLen), true},
		{full + "6b", "", false},
		{full + "6", "", false},
		{full + full, "", false},
		{"6", "", false},
		{"617", "", false},
		{"617A", "", false},
		{"7A61", "", false},
		{"FF", "", false},
		{"0x61", "", false},
		{" 61 ", "", false},
		{"61 7a ", "", false},
		{"-1", "", false},
		{"6\n", "", false},
		{"é", "", false},
		{"6161616161g1", "", false},
	}
	for _, c := range cases {
		if got, ok := impl.DecodeHex(c.s); got != c.want || ok != c.ok {
			t.Errorf("DecodeHex of %d bytes %.12q: %.12q %v, want %.12q %v", len(c.s), c.s, got, ok, c.want, c.ok)
		}
	}
}

func TestDecodeHexReadsBackEachByte(t *testing.T) {
	for _, s := range []string{allBytes(), strings.Repeat(allBytes(), 78)} {
		text, ok := impl.EncodeHex(s)
		back, right := impl.DecodeHex(text)
		if !ok || !right || back != s || len(text) != 2*len(s) {
			t.Errorf("%d bytes are not read back from their hexadecimal text: %v %v", len(s), ok, right)
		}
	}
}

func TestDecodeHexDigits(t *testing.T) {
	for i := range 256 {
		digit := string([]byte{byte(i)})
		value := strings.Index("0123456789abcdef", digit)
		high, highOk := impl.DecodeHex(digit + "0")
		low, lowOk := impl.DecodeHex("0" + digit)
		if highOk != (value >= 0) || lowOk != (value >= 0) {
			t.Errorf("byte %d as a digit: %v %v, want %v", i, highOk, lowOk, value >= 0)
		}
		wantHigh, wantLow := "", ""
		if value >= 0 {
			wantHigh, wantLow = string([]byte{byte(16 * value)}), string([]byte{byte(value)})
		}
		if high != wantHigh || low != wantLow {
			t.Errorf("byte %d as a digit: %q %q, want %q %q", i, high, low, wantHigh, wantLow)
		}
	}
}

func TestFormatInt(t *testing.T) {
	cases := map[int]string{
		0:             "0",
		7:             "7",
		10:            "10",
		-1:            "-1",
		-10:           "-10",
		100:           "100",
		-907:          "-907",
		1000000000:    "1000000000",
		1000000001:    "1000000001",
		math.MaxInt32: "2147483647",
		math.MaxInt:   "9223372036854775807",
		math.MinInt:   "-9223372036854775808",
		-math.MaxInt:  "-9223372036854775807",
	}
	for n, want := range cases {
		if got := impl.FormatInt(n); got != want {
			t.Errorf("FormatInt(%d) is %q, want %q", n, got, want)
		}
	}
}

func TestParseUintReadsBackNumbers(t *testing.T) {
	numbers := []int{impl.MaxUint, impl.MaxUint - 1, 999999999, 123456789}
	for n := range 2000 {
		numbers = append(numbers, n)
	}
	for n := 1; n <= impl.MaxUint; n *= 10 {
		numbers = append(numbers, n-1, n)
	}
	for _, n := range numbers {
		if got, ok := impl.ParseUint(impl.FormatInt(n)); got != n || !ok {
			t.Errorf("the text of %d is read as %d %v", n, got, ok)
		}
	}
}

func TestParseUintRejects(t *testing.T) {
	texts := []string{
		"", "1000000001", "2000000000", "9999999999", "10000000000", "01000000000",
		"9223372036854775807", "9223372036854775808", "18446744073709551616", "18446744073709551617",
		"00", "01", "000", "007", "0000000001", "-1", "-0", "-01", "-1000000000", "+1", "+0", "+", "-", "--1",
		" 1", "1 ", " ", "1 2", "1\n", "\t1", "1.0", "1e3", "0x1", "0b1", "0o7", "1_000", "1,000",
		"a", "1a", "a1", "1\x00", "\x00", "/", ":", "1/", "1:", "\xff", "\u0663", "\uff11",
		strings.Repeat("0", 300), strings.Repeat("1", 300), strings.Repeat("0", 299) + "1",
	}
	for _, s := range texts {
		if got, ok := impl.ParseUint(s); got != 0 || ok {
			t.Errorf("ParseUint(%.24q) is %d %v, want 0 false", s, got, ok)
		}
	}
}

func TestParseUintSingleBytes(t *testing.T) {
	for i := range 256 {
		digit := i >= '0' && i <= '9'
		want := 0
		if digit {
			want = i - '0'
		}
		if got, ok := impl.ParseUint(string([]byte{byte(i)})); got != want || ok != digit {
			t.Errorf("ParseUint of the byte %d is %d %v, want %d %v", i, got, ok, want, digit)
		}
	}
}

// numberFields returns the fields "1", "2" and so on.
func numberFields(n int) []string {
	fields := make([]string, n)
	for i := range fields {
		fields[i] = strconv.Itoa(i + 1)
	}
	return fields
}

func TestSplitFields(t *testing.T) {
	most := numberFields(impl.MaxFieldsPerLine)
	long := strings.Repeat("a", impl.MaxLineLen-3)
	cases := []struct {
		line string
		want []string
	}{
		{"", nil},
		{" ", nil},
		{strings.Repeat(" ", impl.MaxLineLen), nil},
		{"undo", []string{"undo"}},
		{" buy  1 ", []string{"buy", "1"}},
		{"flip 0 7", []string{"flip", "0", "7"}},
		{"   a   b", []string{"a", "b"}},
		{"a b   ", []string{"a", "b"}},
		{"a a a", []string{"a", "a", "a"}},
		{"!~ \"#", []string{"!~", "\"#"}},
		{"~", []string{"~"}},
		{"01,-5 \\n", []string{"01,-5", "\\n"}},
		{strings.Join(most, " "), most},
		{"  " + strings.Join(most, "   ") + "  ", most},
		{strings.Repeat("a", impl.MaxLineLen), []string{strings.Repeat("a", impl.MaxLineLen)}},
		{long + " bc", []string{long, "bc"}},
		{"bc " + long, []string{"bc", long}},
	}
	for _, c := range cases {
		if got, ok := impl.SplitFields(c.line); !slices.Equal(got, c.want) || !ok {
			t.Errorf("SplitFields(%.60q) is %.60q %v, want %.60q true", c.line, got, ok, c.want)
		}
	}
}

func TestSplitFieldsRejects(t *testing.T) {
	tooMany := strings.Join(numberFields(impl.MaxFieldsPerLine+1), " ")
	lines := []string{
		strings.Repeat("a", impl.MaxLineLen+1),
		strings.Repeat(" ", impl.MaxLineLen+1),
		"a" + strings.Repeat(" ", impl.MaxLineLen),
		strings.Repeat(" ", impl.MaxLineLen) + "a",
		strings.Repeat("a", 100*impl.MaxLineLen),
		tooMany,
		"  " + tooMany + "  ",
		strings.Repeat("a ", impl.MaxLineLen/2),
		"a\tb", "a\n", "\na", "a\r", "\x00", "a\x1f", "\x1fa", "a\x7f", "\x7fa", "a\x80", "\xff", "é", "a\u00a0b", "a\u2003b",
		strings.Repeat("a", impl.MaxLineLen-1) + "\n",
		strings.Repeat(" ", impl.MaxLineLen-1) + "\x7f",
		"\t" + strings.Repeat(" ", impl.MaxLineLen-1),
	}
	for _, line := range lines {
		if got, ok := impl.SplitFields(line); len(got) != 0 || ok {
			t.Errorf("SplitFields of %d bytes %.60q is %.60q %v, want nil false", len(line), line, got, ok)
		}
	}
}

func TestSplitFieldsBytes(t *testing.T) {
	for i := range 256 {
		b := string([]byte{byte(i)})
		for _, around := range []string{"", "k", "kkk"} {
			line := around + b + around
			var want []string
			switch {
			case i == ' ':
				want = twice(around)
			case i > ' ' && i <= '~':
				want = []string{line}
			}
			valid := i >= ' ' && i <= '~'
			if got, ok := impl.SplitFields(line); !slices.Equal(got, want) || ok != valid {
				t.Errorf("SplitFields(%q) is %q %v, want %q %v", line, got, ok, want, valid)
			}
		}
	}
}

// twice returns the fields of a text, a space and the text again.
func twice(text string) []string {
	if text == "" {
		return nil
	}
	return []string{text, text}
}

func TestSplitFieldsReturnsNewMemory(t *testing.T) {
	line := strings.Repeat("abcdefgh ", 5)
	first, _ := impl.SplitFields(line)
	low := uintptr(unsafe.Pointer(unsafe.StringData(line)))
	for _, field := range first {
		at := uintptr(unsafe.Pointer(unsafe.StringData(field)))
		if at >= low && at < low+uintptr(len(line)) {
			t.Error("a field is a part of the line's memory")
		}
	}
	if len(first) != 5 {
		t.Fatal("unexpected fields", first)
	}
	first[0] = "changed"
	if second, ok := impl.SplitFields(line); !ok || len(second) != 5 || second[0] != "abcdefgh" {
		t.Error("a changed result changes a later one", second)
	}
}

func TestClamp(t *testing.T) {
	cases := []struct{ n, low, high, want int }{
		{3, 1, 5, 3},
		{0, 1, 5, 1},
		{9, 1, 5, 5},
		{1, 1, 5, 1},
		{5, 1, 5, 5},
		{-9, -5, -1, -5},
		{0, -5, -1, -1},
		{4, 4, 4, 4},
		{3, 4, 4, 4},
		{5, 4, 4, 4},
		{0, 5, 1, 5},
		{3, 5, 1, 5},
		{9, 5, 1, 5},
		{1, 5, 1, 5},
		{5, 5, 1, 5},
		{math.MinInt, math.MinInt, math.MaxInt, math.MinInt},
		{math.MaxInt, math.MinInt, math.MaxInt, math.MaxInt},
		{math.MinInt, 0, 0, 0},
		{math.MaxInt, 0, 0, 0},
		{0, math.MaxInt, math.MinInt, math.MaxInt},
		{math.MaxInt, math.MinInt, math.MinInt, math.MinInt},
	}
	for _, c := range cases {
		if got := impl.Clamp(c.n, c.low, c.high); got != c.want {
			t.Errorf("Clamp(%d, %d, %d) is %d, want %d", c.n, c.low, c.high, got, c.want)
		}
	}
}

func TestClampIsInTheRange(t *testing.T) {
	for n := -5; n <= 5; n++ {
		for low := -4; low <= 4; low++ {
			for high := low; high <= 4; high++ {
				got := impl.Clamp(n, low, high)
				inside := n >= low && n <= high
				if got < low || got > high || inside && got != n || !inside && got != low && got != high {
					t.Errorf("Clamp(%d, %d, %d) is %d", n, low, high, got)
				}
			}
		}
	}
}
