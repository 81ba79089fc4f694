package tests

import (
	"iter"
	"math"
	"strings"
	"testing"

	"loop.example/g00727/impl"
)

// dialect makes a valid Dialect with Notes `#;` and Seps `=:` whose flags are
// named by their letters: i, q and e for Inline, Quotes and Escapes.
func dialect(flags string, join int) impl.Dialect {
	return impl.Dialect{
		Notes: "#;", Seps: "=:", Join: join,
		Inline: strings.Contains(flags, "i"), Quotes: strings.Contains(flags, "q"), Escapes: strings.Contains(flags, "e"),
	}
}

// dialectsWith goes through all flags with each of the joins.
func dialectsWith(joins ...int) iter.Seq[impl.Dialect] {
	return func(yield func(impl.Dialect) bool) {
		for _, join := range joins {
			for _, flags := range []string{"", "i", "q", "e", "iq", "ie", "qe", "iqe"} {
				if !yield(dialect(flags, join)) {
					return
				}
			}
		}
	}
}

type valueCase struct {
	s, want string
	ok      bool
}

func checkValues(t *testing.T, name string, read func(string, impl.Dialect) (string, bool), d impl.Dialect, cases []valueCase) {
	t.Helper()
	for _, c := range cases {
		if got, ok := read(c.s, d); got != c.want || ok != c.ok {
			t.Errorf("%s(%q, %+v) = %q, %v, want %q, %v", name, c.s, d, got, ok, c.want, c.ok)
		}
	}
}

func TestJoinConstants(t *testing.T) {
	if impl.JoNone != 0 || impl.JoMark != 1 || impl.JoIndent != 2 {
		t.Errorf("the constants are %d, %d, %d", impl.JoNone, impl.JoMark, impl.JoIndent)
	}
}

func TestDialectOk(t *testing.T) {
	allNotes := []string{"#", ";", "!", "#;", ";#", "#!", "!#", ";!", "!;", "#;!", "#!;", ";#!", ";!#", "!#;", "!;#"}
	noNotes := []string{"", "##", "#;#", "!!", ";;;", "#;!#", "#;!!", "#;!=", "=", ":", "#=", "=#", "#;=", "x", "#x", " ", "# ", "\x00", "#\x00", "\xff", "#\xa3", "\u037e", "//", "#;!#;!"}
	allSeps := []string{"=", ":", "=:", ":="}
	noSeps := []string{"", "==", "::", "=:=", "=::", "=:x", "#", "=#", "#=", " ", "= ", "\t", "x", "\x00", "=\x00", "\xbd", "=\xff", "\uff1d"}
	for _, join := range []int{impl.JoNone, impl.JoMark, impl.JoIndent, -1, 3, 4, 256, 1 << 32, math.MinInt, math.MaxInt} {
		for i, notes := range append(allNotes, noNotes...) {
			for j, seps := range append(allSeps, noSeps...) {
				want := i < len(allNotes) && j < len(allSeps) && (join == 0 || join == 1 || join == 2)
				d := impl.Dialect{Notes: notes, Seps: seps, Inline: i%2 == 0, Quotes: j%2 == 0, Escapes: i%3 == 0, Join: join}
				if got := impl.DialectOk(d); got != want {
					t.Errorf("DialectOk(%+v) = %v", d, got)
				}
			}
		}
	}
}

func TestDialectOkByRule(t *testing.T) {
	for s := range textsOf("#;!=:x", 4) {
		notes, seps := len(s) > 0, len(s) > 0
		for i := range len(s) {
			once := strings.Count(s, s[i:i+1]) == 1
			notes = notes && once && strings.Contains("#;!", s[i:i+1])
			seps = seps && once && strings.Contains("=:", s[i:i+1])
		}
		if got := impl.DialectOk(impl.Dialect{Notes: s, Seps: "="}); got != notes {
			t.Errorf("DialectOk with the Notes %q = %v", s, got)
		}
		if got := impl.DialectOk(impl.Dialect{Notes: "#", Seps: s}); got != seps {
			t.Errorf("DialectOk with the Seps %q = %v", s, got)
		}
	}
}

func TestDialectOkOfLongTexts(t *testing.T) {
	long := strings.Repeat("#;!", 100000)
	if impl.DialectOk(impl.Dialect{Notes: long, Seps: "="}) || impl.DialectOk(impl.Dialect{Notes: "#", Seps: strings.Repeat("=:", 100000)}) {
		t.Error("a long text is accepted")
	}
}

func TestUnescape(t *testing.T) {
	checkValues(t, "Unescape", impl.Unescape, dialect("e", impl.JoNone), []valueCase{
		{"", "", true}, {"a", "a", true}, {" a b\t", " a b\t", true}, {`a"b#c;d`, `a"b#c;d`, true},
		{`\n`, "\n", true}, {`\t`, "\t", true}, {`\r`, "\r", true}, {`\\`, `\`, true}, {`\"`, `"`, true}, {`\ `, " ", true}, {"\\\t", "\t", true},
		{`\[\]\=\:\#\;\!`, "[]=:#;!", true}, {`a\nb\tc\rd`, "a\nb\tc\rd", true}, {`\\n`, `\n`, true}, {`\\\n`, "\\\n", true}, {`\\\\`, `\\`, true}, {`\\\\n`, `\\n`, true}, {`n\\`, `n\`, true},
		{`\`, "", false}, {`a\`, "", false}, {`\\\`, "", false}, {`\n\`, "", false}, {`a\q`, "", false}, {`\nb\q`, "", false}, {`\q\n`, "", false}, {`\N`, "", false}, {`\u0041`, "", false}, {`\0`, "", false}, {`\'`, "", false}, {`\$`, "", false},
		{"\\\n", "", false}, {"\\\r", "", false}, {"a\nb\r", "a\nb\r", true}, {"\\\x00", "", false}, {"\\\xff", "", false}, {"\\\u00e9", "", false},
		{"\x00\\n\x00", "\x00\n\x00", true}, {"\xff\\t\xfe\x80", "\xff\t\xfe\x80", true}, {"\u00e9\\\\\u00e9", "\u00e9\\\u00e9", true}, {"\xc3\\n\xa9", "\xc3\n\xa9", true},
	})
}

func TestUnescapeEveryByte(t *testing.T) {
	known := map[byte]string{'n': "\n", 't': "\t", 'r': "\r", '\\': "\\", '"': `"`, '[': "[", ']': "]", '=': "=", ':': ":", '#': "#", ';': ";", '!': "!", ' ': " ", '\t': "\t"}
	for _, d := range []impl.Dialect{dialect("e", impl.JoNone), dialect("iqe", impl.JoMark), {Notes: "!", Seps: ":", Escapes: true, Join: impl.JoIndent}} {
		for i := range 256 {
			escape := string([]byte{'\\', byte(i)})
			want, ok := known[byte(i)]
			cases := []valueCase{{escape, want, ok}, {"a" + escape + "b", "", false}, {escape + `\\`, "", false}, {`\\` + escape, "", false}}
			if ok {
				cases = []valueCase{{escape, want, ok}, {"a" + escape + "b", "a" + want + "b", true}, {escape + `\\`, want + `\`, true}, {`\\` + escape, `\` + want, true}}
			}
			checkValues(t, "Unescape", impl.Unescape, d, cases)
		}
	}
}

func TestUnescapeWithoutEscapes(t *testing.T) {
	for d := range dialectsWith(impl.JoNone, impl.JoMark, impl.JoIndent) {
		d.Escapes = false
		for _, s := range []string{"", "a", `\`, `\n`, `\\`, `a\q`, `\\\`, ` \" `, "\\\x00\xff", "\\\n"} {
			checkValues(t, "Unescape", impl.Unescape, d, []valueCase{{s, s, true}})
		}
	}
}

func TestBare(t *testing.T) {
	checkValues(t, "Bare", impl.Bare, dialect("ie", impl.JoNone), []valueCase{
		{"", "", true}, {" ", "", true}, {" \t ", "", true}, {"a", "a", true}, {"a b", "a b", true}, {" \ta b\t ", "a b", true}, {`"a"`, `"a"`, true}, {`"a # b"`, `"a`, true},
		{"#", "#", true}, {"# b", "# b", true}, {"#b # c", "#b", true}, {" # b", "", true}, {"\t;", "", true}, {"a # b", "a", true}, {"a\t; b", "a", true}, {"a#b", "a#b", true}, {"a# b", "a# b", true}, {"a ! b", "a ! b", true}, {"a#b #c", "a#b", true},
		{"a # b ; c", "a", true}, {"a ; b # c", "a", true}, {"a #", "a", true}, {"a   #", "a", true}, {"a ##", "a", true}, {"a;# b", "a;# b", true},
		{`a\ `, "a ", true}, {"a\\\t", "a\t", true}, {`a\  `, "a ", true}, {`a\ # b`, "a # b", true}, {"a\\\t; b", "a\t; b", true}, {`a\\ # b`, `a\`, true}, {`a\\\ # b`, `a\ # b`, true}, {`a\\\\ ; b`, `a\\`, true}, {`a\ # b # c`, "a # b", true}, {`a\  # b`, "a ", true},
		{`a\\ `, `a\`, true}, {`a\\\ `, `a\ `, true}, {`a\\\\  `, `a\\`, true}, {`\ `, " ", true}, {` \ `, " ", true}, {`\ a`, " a", true}, {`\  `, " ", true}, {`\ \ `, "  ", true}, {` \ # b`, " # b", true},
		{`a\#b`, "a#b", true}, {`a \# b`, "a # b", true}, {`a \\# b`, `a \# b`, true}, {`a \; # b`, "a ;", true}, {`a\nb`, "a\nb", true}, {`\n`, "\n", true}, {`a\t`, "a\t", true},
		{`a\`, "", false}, {`a\q`, "", false}, {`a \`, "", false}, {`a\ \`, "", false}, {`a # \q`, "a", true}, {`a\q # b`, "", false}, {`a\ # \q`, "", false}, {`a\ #\`, "", false},
		{"a\x00 # b", "a\x00", true}, {"\x00", "\x00", true}, {"\xff #", "\xff", true}, {"\u00a0a\u00a0", "\u00a0a\u00a0", true}, {"a\u00a0# b", "a\u00a0# b", true}, {"a\xa3 b", "a\xa3 b", true}, {"\n a \r", "\n a \r", true}, {"a\n# b", "a\n# b", true}, {"a\v# \f", "a\v# \f", true},
	})
	checkValues(t, "Bare", impl.Bare, dialect("e", impl.JoNone), []valueCase{
		{" # b ", "# b", true}, {"a # b", "a # b", true}, {`a\ # b`, "a # b", true}, {`a\ `, "a ", true}, {`a # b\q`, "", false}, {` a\\ `, `a\`, true}, {"a ;\t", "a ;", true},
	})
	checkValues(t, "Bare", impl.Bare, dialect("i", impl.JoNone), []valueCase{
		{`a\ `, `a\`, true}, {`a\ # b`, `a\`, true}, {`a\\ # b`, `a\\`, true}, {`a\q`, `a\q`, true}, {`a\`, `a\`, true}, {`\ `, `\`, true}, {" # b", "", true}, {"# b", "# b", true}, {`a \# b`, `a \# b`, true},
	})
	checkValues(t, "Bare", impl.Bare, dialect("q", impl.JoNone), []valueCase{
		{" # b ", "# b", true}, {"a # b", "a # b", true}, {`a\ `, `a\`, true}, {`"a"`, `"a"`, true}, {`"a" b`, `"a" b`, true}, {"\t\ta\\n \t", `a\n`, true},
	})
}

func TestBareWithOtherNotes(t *testing.T) {
	for _, note := range []string{"#", ";", "!"} {
		d := impl.Dialect{Notes: note, Seps: "=", Inline: true}
		for _, other := range []string{"#", ";", "!"} {
			want := "a"
			if other != note {
				want = "a " + other + " b"
			}
			checkValues(t, "Bare", impl.Bare, d, []valueCase{{"a " + other + " b", want, true}, {"a " + other + " b " + note, want, true}})
		}
	}
}

func TestQuoted(t *testing.T) {
	checkValues(t, "Quoted", impl.Quoted, dialect("iqe", impl.JoNone), []valueCase{
		{"", "", false}, {"a", "", false}, {`a"b"`, "", false}, {` "a"`, "", false}, {`'a'`, "", false}, {`\"a"`, "", false}, {`a"`, "", false}, {` "`, "", false}, {`a" # b`, "", false},
		{`"`, "", false}, {`"a`, "", false}, {`"a\"`, "", false}, {`"a\\\"`, "", false}, {`"\"`, "", false}, {`"a # b`, "", false},
		{`""`, "", true}, {`"a"`, "a", true}, {`" a "`, " a ", true}, {`"a # b"`, "a # b", true}, {`"a ; b" ; c`, "a ; b", true}, {`"[a]=b:c"`, "[a]=b:c", true},
		{`"a\"b"`, `a"b`, true}, {`"a\\"`, `a\`, true}, {`"a\\\"b"`, `a\"b`, true}, {`"a\\\\"`, `a\\`, true}, {`"\""`, `"`, true}, {`"\\"`, `\`, true}, {`"\"\""`, `""`, true}, {`"a\nb\tc\rd"`, "a\nb\tc\rd", true}, {`"\ "`, " ", true},
		{`"a\q"`, "", false}, {`"\u0041"`, "", false}, {`"a\q" # b`, "", false},
		{`"a" `, "a", true}, {"\"a\"\t \t", "a", true}, {`"a" # b`, "a", true}, {"\"a\"\t;", "a", true}, {`"a"   #`, "a", true}, {`"a" #"b"`, "a", true}, {`"a" # \q \`, "a", true}, {`"a" # b ; c`, "a", true},
		{`"a"# b`, "", false}, {`"a";`, "", false}, {`"a"b`, "", false}, {`"a" b`, "", false}, {`"a" b # c`, "", false}, {`"a" ! b`, "", false}, {`"a""b"`, "", false}, {`"a" "b"`, "", false}, {`"a"\ `, "", false}, {`"a"\ # b`, "", false}, {`"a" \# b`, "", false}, {`"""`, "", false}, {"\"a\"\n", "", false}, {"\"a\"\u00a0", "", false}, {"\"a\"\r# b", "", false},
		{"\"\x00\"", "\x00", true}, {"\"\xff\xfe\"", "\xff\xfe", true}, {"\"\u00e9\" # \xff", "\u00e9", true}, {"\"a\nb\"", "a\nb", true}, {"\"a\"\x00", "", false}, {"\"a\" #\x00", "a", true},
	})
	checkValues(t, "Quoted", impl.Quoted, dialect("qe", impl.JoNone), []valueCase{
		{`"a"`, "a", true}, {`"a" `, "a", true}, {"\"a\"\t", "a", true}, {`"a" # b`, "", false}, {`"a"# b`, "", false}, {`"a" b`, "", false}, {`"a\"b"`, `a"b`, true}, {`"a # b"`, "a # b", true},
	})
	checkValues(t, "Quoted", impl.Quoted, dialect("iq", impl.JoNone), []valueCase{
		{`"a\"`, `a\`, true}, {`"a\"b"`, "", false}, {`"a\\"`, `a\\`, true}, {`"a\q\n"`, `a\q\n`, true}, {`"\"`, `\`, true}, {`"a\" # b"`, `a\`, true}, {`"a\\\" `, `a\\\`, true}, {`"\`, "", false}, {`"a"\`, "", false}, {`"a" # b`, "a", true},
	})
	checkValues(t, "Quoted", impl.Quoted, dialect("", impl.JoNone), []valueCase{
		{`"a"`, "a", true}, {`"a" # b`, "", false}, {`"a" ;`, "", false}, {`"a\"`, `a\`, true}, {`"a`, "", false}, {`a`, "", false}, {`"a"  `, "a", true},
	})
}

func TestValuesByRule(t *testing.T) {
	for d := range dialectsWith(impl.JoNone) {
		rules := rulesOf(d)
		for s := range textsOf("a# \"\\", 6) {
			value, ok := rules.unescape(s)
			checkValues(t, "Unescape", impl.Unescape, d, []valueCase{{s, value, ok}})
			value, ok = rules.bare(s)
			checkValues(t, "Bare", impl.Bare, d, []valueCase{{s, value, ok}})
			value, ok = rules.quoted(`"` + s)
			checkValues(t, "Quoted", impl.Quoted, d, []valueCase{{`"` + s, value, ok}})
		}
	}
}

// TestValuesOfAnyLength: MaxText binds the files, not the texts of single values.
func TestValuesOfAnyLength(t *testing.T) {
	const n = 100 * impl.MaxText
	d := dialect("iqe", impl.JoNone)
	long := strings.Repeat("a", n)
	marks := strings.Repeat(`\\`, n)
	checkValues(t, "Unescape", impl.Unescape, d, []valueCase{{long, long, true}, {marks, strings.Repeat(`\`, n), true}, {marks + `\`, "", false}})
	checkValues(t, "Bare", impl.Bare, d, []valueCase{{long + strings.Repeat(" ", n), long, true}, {strings.Repeat(`\ #`, n), strings.Repeat(" #", n), true}})
	checkValues(t, "Quoted", impl.Quoted, d, []valueCase{{`"` + long + `"`, long, true}, {`"` + strings.Repeat(`\"`, n) + `"`, strings.Repeat(`"`, n), true}, {`"` + long, "", false}})
}

// TestValuesWithAnyDialect: the functions of single values look at the fields
// that they need and always return.
func TestValuesWithAnyDialect(t *testing.T) {
	for _, notes := range []string{"", "#", "##", "x", " ", "\\", "\"", "\xff", "#;!?"} {
		for _, join := range []int{-1, impl.JoMark, 7} {
			d := impl.Dialect{Notes: notes, Seps: notes, Inline: true, Quotes: true, Escapes: true, Join: join}
			for s := range textsOf("a# \"\\\xff", 4) {
				impl.Unescape(s, d)
				impl.Bare(s, d)
				impl.Quoted(s, d)
				impl.Quoted(`"`+s, d)
			}
		}
	}
}
