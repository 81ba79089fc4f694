package tests

import (
	"math"
	"strconv"
	"strings"
	"testing"

	"loop.example/g00727/impl"
)

const greatestRead = 999999999999999999

func TestDecText(t *testing.T) {
	cases := []struct {
		n    int
		want string
	}{
		{0, "0"}, {7, "7"}, {-7, "-7"}, {10, "10"}, {-120, "-120"},
		{greatestRead, "999999999999999999"}, {-greatestRead, "-999999999999999999"},
		{1000000000000000000, "1000000000000000000"},
		{math.MaxInt, "9223372036854775807"}, {math.MinInt, "-9223372036854775808"},
		{math.MinInt + 1, "-9223372036854775807"},
	}
	for _, c := range cases {
		if got := impl.DecText(c.n); got != c.want {
			t.Errorf("DecText(%d) = %q, want %q", c.n, got, c.want)
		}
	}
}

func TestReadInt(t *testing.T) {
	cases := []struct {
		s    string
		want int
	}{
		{"0", 0}, {"-0", 0}, {"+0", 0}, {"5", 5}, {"+5", 5}, {"-5", -5},
		{"007", 7}, {"-007", -7}, {"+007", 7},
		{"000000000000000000", 0}, {"-000000000000000001", -1},
		{"12345678901234567", 12345678901234567},
		{"123456789012345678", 123456789012345678},
		{"999999999999999999", greatestRead},
		{"+999999999999999999", greatestRead},
		{"-999999999999999999", -greatestRead},
	}
	for _, c := range cases {
		if got, ok := impl.ReadInt(c.s); got != c.want || !ok {
			t.Errorf("ReadInt(%q) = %d, %v, want %d, true", c.s, got, ok, c.want)
		}
	}
}

func TestReadIntRefuses(t *testing.T) {
	bad := []string{
		"", "+", "-", "++1", "--1", "+-1", "-+1", "1-", "1+", "-1-",
		" 1", "1 ", "\t1", "- 1", "1 2", "1\n", " ", "\n",
		"1000000000000000000", "-1000000000000000000", "+1000000000000000000",
		"0000000000000000000", "0000000000000000001", "9223372036854775807", "18446744073709551617",
		"a", "1a", "0x1", "1_0", "1.0", "1e3", ",1", "/", ":",
		"1\x00", "\x001", "\x00", "\xb1", "1\xff", "\xff", "\x801",
		"\uff11", "\u0661", "1\u00a0", "\u22121", strings.Repeat("1", impl.MaxText),
	}
	for _, s := range bad {
		if got, ok := impl.ReadInt(s); got != 0 || ok {
			t.Errorf("ReadInt(%q) = %d, %v, want 0, false", s, got, ok)
		}
	}
}

func TestIntsAreRecovered(t *testing.T) {
	for digits, n := 1, 1; digits <= 18; digits, n = digits+1, n*10 {
		for _, m := range []int{n, n + 1, 2*n - 1, 5 * n, 10*n - 1} {
			checkIntRecovered(t, m)
			checkIntRecovered(t, -m)
		}
	}
	for n := -1100; n <= 1100; n++ {
		checkIntRecovered(t, n)
	}
	for _, n := range []int{greatestRead + 1, -greatestRead - 1, math.MaxInt, math.MinInt} {
		if got, ok := impl.ReadInt(impl.DecText(n)); got != 0 || ok {
			t.Errorf("the text of %d is read as %d, %v", n, got, ok)
		}
	}
}

func checkIntRecovered(t *testing.T, n int) {
	t.Helper()
	text := impl.DecText(n)
	if want := strconv.FormatInt(int64(n), 10); text != want {
		t.Errorf("DecText(%d) = %q, want %q", n, text, want)
	}
	if got, ok := impl.ReadInt(text); got != n || !ok {
		t.Errorf("ReadInt(%q) = %d, %v, want %d, true", text, got, ok, n)
	}
	if got, ok := impl.ReadInt("+" + text); n >= 0 && (got != n || !ok) {
		t.Errorf("ReadInt(%q) = %d, %v, want %d, true", "+"+text, got, ok, n)
	}
}

// TestReadIntByRule holds ReadInt against the document's rule, spelled out anew, on all short texts of telling bytes.
func TestReadIntByRule(t *testing.T) {
	for s := range textsOf("+-09/:a \x00\x80\xff", 4) {
		n, err := strconv.Atoi(s)
		if got, ok := impl.ReadInt(s); got != n || ok != (err == nil) {
			t.Errorf("ReadInt(%q) = %d, %v, want %d, %v", s, got, ok, n, err == nil)
		}
	}
}

func TestHexText(t *testing.T) {
	cases := []struct {
		n, digits int
		want      string
	}{
		{0, 1, "0"}, {0, 8, "00000000"}, {9, 1, "9"}, {10, 1, "a"}, {15, 1, "f"}, {16, 1, "0"}, {16, 2, "10"},
		{255, 1, "f"}, {255, 2, "ff"}, {255, 3, "0ff"}, {4779, 4, "12ab"}, {4779, 3, "2ab"}, {4779, 8, "000012ab"},
		{0x89abcdef, 8, "89abcdef"}, {0x123456789a, 8, "3456789a"}, {math.MaxInt, 8, "ffffffff"}, {math.MaxInt, 1, "f"},
		{0x0123456789abcdef, 7, "9abcdef"},
	}
	for _, c := range cases {
		if got := impl.HexText(c.n, c.digits); got != c.want {
			t.Errorf("HexText(%d, %d) = %q, want %q", c.n, c.digits, got, c.want)
		}
	}
}

func TestHexTextRefuses(t *testing.T) {
	bad := [][2]int{
		{1, 0}, {1, 9}, {1, -1}, {0, 0}, {0, 9}, {255, 16}, {1, math.MaxInt}, {1, math.MinInt},
		{-1, 1}, {-1, 8}, {-1, 0}, {-1, 9}, {-16, 4}, {math.MinInt, 1}, {math.MinInt, 8}, {math.MinInt, math.MinInt},
	}
	for _, c := range bad {
		if got := impl.HexText(c[0], c[1]); got != "" {
			t.Errorf("HexText(%d, %d) = %q, want none", c[0], c[1], got)
		}
	}
}

func TestReadHex(t *testing.T) {
	cases := []struct {
		s    string
		want int
	}{
		{"0", 0}, {"9", 9}, {"a", 10}, {"f", 15}, {"A", 10}, {"F", 15}, {"00fF", 255}, {"aBcDeF", 0xabcdef},
		{"10", 16}, {"0000000", 0}, {"00000001", 1}, {"12345678", 0x12345678}, {"ffffffff", 4294967295}, {"FFFFFFFF", 4294967295},
	}
	for _, c := range cases {
		if got := impl.ReadHex(c.s); got != c.want {
			t.Errorf("ReadHex(%q) = %d, want %d", c.s, got, c.want)
		}
	}
}

func TestReadHexRefuses(t *testing.T) {
	bad := []string{
		"", "g", "G", "/", ":", "@", "`", "+1", "-1", "0x1", "x", " 1", "1 ", "\t", "1_0", "1\n",
		"000000000", "123456789", "fffffffff", "1\x00", "\x00", "\x80", "f\xff", "\xe1", "\uff11", "\uff21", "\u00e0",
		strings.Repeat("0", impl.MaxText),
	}
	for _, s := range bad {
		if got := impl.ReadHex(s); got != -1 {
			t.Errorf("ReadHex(%q) = %d, want -1", s, got)
		}
	}
}

func TestHexIsRecovered(t *testing.T) {
	for digits := 1; digits <= 8; digits++ {
		top := 1 << (4 * digits)
		for _, n := range []int{0, 1, top / 3, top / 2, top*2/3 + 1, top - 1} {
			text := impl.HexText(n, digits)
			if len(text) != digits || text != strings.ToLower(text) {
				t.Errorf("HexText(%d, %d) = %q", n, digits, text)
			}
			if got := impl.ReadHex(text); got != n {
				t.Errorf("ReadHex(%q) = %d, want %d", text, got, n)
			}
			if got := impl.ReadHex(strings.ToUpper(text)); got != n {
				t.Errorf("ReadHex of %q in upper case = %d, want %d", text, got, n)
			}
			if got := impl.HexText(n+5*top, digits); got != text {
				t.Errorf("HexText(%d, %d) = %q, want %q", n+5*top, digits, got, text)
			}
		}
	}
}

// TestReadHexByRule does for single bytes and pairs what TestReadIntByRule does: every byte is tried.
func TestReadHexByRule(t *testing.T) {
	const digits = "0123456789abcdef"
	for b := range 256 {
		s := string([]byte{byte(b)})
		want := strings.Index(digits, s)
		if 'A' <= b && b <= 'F' {
			want = b - 'A' + 10
		}
		if got := impl.ReadHex(s); got != want {
			t.Errorf("ReadHex(%q) = %d, want %d", s, got, want)
		}
		if got := impl.ReadHex("1" + s); want >= 0 && got != 16+want || want < 0 && got != -1 {
			t.Errorf("ReadHex(%q) = %d", "1"+s, got)
		}
	}
}
