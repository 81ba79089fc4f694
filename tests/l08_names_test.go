package tests

import (
	"regexp"
	"strings"
	"testing"

	"loop.example/g00727/impl"
)

var envName = regexp.MustCompile(`(?s)\A[A-Za-z_][A-Za-z0-9_]{0,39}\z`)

func checkName(t *testing.T, s string, want bool) {
	t.Helper()
	if got := impl.NameOk(s); got != want {
		t.Errorf("NameOk(%q) = %v, want %v", s, got, want)
	}
}

func checkPlain(t *testing.T, s string, want string) {
	t.Helper()
	if got := impl.Plain(s); got != want {
		t.Errorf("Plain(%q) = %q, want %q", s, got, want)
	}
}

func TestNames(t *testing.T) {
	for _, s := range []string{"a", "z", "A", "Z", "_", "HOME", "path", "A_1", "a0", "a9", "__", "_0", "_9_", "aZ09_", "export", "X" + strings.Repeat("1", 39), strings.Repeat("_", 40), strings.Repeat("z", 39)} {
		checkName(t, s, true)
	}
	for _, s := range []string{"", "0", "9", "1A", "0_", "a-b", "a.b", "a b", " a", "a ", "\ta", "a\n", "\n", "$a", "a$", "${a}", "a=", "=", "'a'", `"a"`, "a\x00", "\x00", "\u00e9", "a\u00e9", "\xff", "a\xff", "\uff21", "\u0661", "a\u0660", "\u212a"} {
		checkName(t, s, false)
	}
}

func TestNamesOfEveryByte(t *testing.T) {
	for i := range 256 {
		b := string([]byte{byte(i)})
		digit := '0' <= i && i <= '9'
		inside := digit || 'a' <= i && i <= 'z' || 'A' <= i && i <= 'Z' || i == '_'
		for _, more := range []string{"", "a", "Z9_"} {
			checkName(t, b+more, inside && !digit)
			checkName(t, "a"+b+more, inside)
			checkName(t, "_"+more+b, inside)
		}
		checkName(t, b+strings.Repeat("0", 39), inside && !digit)
		checkName(t, strings.Repeat("Q", 39)+b, inside)
		checkName(t, strings.Repeat("Q", 40)+b, false)
		checkName(t, b+strings.Repeat("q", 40), false)
	}
}

func TestNamesOfEveryLength(t *testing.T) {
	for n := range 100 {
		for _, b := range []string{"a", "A", "_"} {
			checkName(t, strings.Repeat(b, n), 1 <= n && n <= 40)
		}
		checkName(t, "x"+strings.Repeat("7", n), n <= 39)
		checkName(t, strings.Repeat("7", n), false)
		checkName(t, strings.Repeat("\u00e9", n), false)
	}
	checkName(t, strings.Repeat("a", 10*impl.MaxText), false)
}

func TestNamesByRule(t *testing.T) {
	for s := range joinsOf([]string{"a", "Z", "0", "_", "-", " ", "$", "\n", "\x00", "\u00e9", "\xff"}, 4) {
		checkName(t, s, envName.MatchString(s))
	}
}

func TestPlain(t *testing.T) {
	for s, want := range map[string]string{
		"": "", "a": "a", "a b": "a b", "$": "$$", "$$": "$$$$", "$$$": "$$$$$$", "a$": "a$$", "$a": "$$a", "a$b": "a$$b", "a$b$c": "a$$b$$c", "$a$$b$": "$$a$$$$b$$", "${a}": "$${a}", "${a:-$b}": "$${a:-$$b}", `\$`: `\$$`, `$\`: `$$\`, "'$'": "'$$'",
		"\n$\r\n": "\n$$\r\n", "\x00$\xff": "\x00$$\xff", "\u00e9$\U0001f600": "\u00e9$$\U0001f600", "\xc3$\xa9": "\xc3$$\xa9", "\uff04\u20ac": "\uff04\u20ac", "#%&": "#%&",
	} {
		checkPlain(t, s, want)
	}
	checkPlain(t, strings.Repeat("a$", 10*impl.MaxText), strings.Repeat("a$$", 10*impl.MaxText))
}

func TestPlainOfEveryByte(t *testing.T) {
	for i := range 256 {
		b := string([]byte{byte(i)})
		want := b
		if b == "$" {
			want = "$$"
		}
		checkPlain(t, b, want)
		checkPlain(t, b+b, want+want)
		checkPlain(t, "a"+b+"$"+b, "a"+want+"$$"+want)
	}
	for s := range textsOf("$a{\xff", 6) {
		checkPlain(t, s, strings.Join(strings.Split(s, "$"), "$$"))
	}
}
