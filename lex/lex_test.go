package lex_test

import (
	"regexp"
	"slices"
	"strings"
	"sync"
	"testing"

	"temple/api"
	"temple/lex"
)

func name(at int, text string) api.Token {
	return api.Token{Kind: api.TokName, At: at, Text: text}
}

func text(at int, bytes string) api.Token {
	return api.Token{Kind: api.TokText, At: at, Text: bytes}
}

func span(at int, lo, hi int) api.Token {
	return api.Token{Kind: api.TokRange, At: at, Lo: lo, Hi: hi}
}

// sign is a token without a payload.
func sign(at int, kind int) api.Token {
	return api.Token{Kind: kind, At: at}
}

// wantTokens holds s against its tokens; R2: no place beside them.
func wantTokens(t *testing.T, s string, want ...api.Token) {
	t.Helper()
	got, at, e := lex.Lex(s)
	if e != api.OK || at != 0 || !slices.Equal(got, want) {
		t.Errorf("P2.1: Lex(%.80q) = %v, %d, %d, not %v", s, got, at, e, want)
	}
}

// wantFault holds s against its fault; R2: no token beside it.
func wantFault(t *testing.T, s string, at int, fault api.Errno) {
	t.Helper()
	got, place, e := lex.Lex(s)
	if e != fault || place != at || len(got) != 0 {
		t.Errorf("P2.1: Lex(%.80q) = %v, %d, %d, not %d, %d", s, got, place, e, at, fault)
	}
}

func TestEachKind(t *testing.T) {
	wantTokens(t, `name`, name(0, "name"))
	wantTokens(t, `"text"`, text(0, "text"))
	wantTokens(t, `'r'`, span(0, 'r', 'r'))
	wantTokens(t, `start`, sign(0, api.TokStart))
	wantTokens(t, `=`, sign(0, api.TokIs))
	wantTokens(t, `|`, sign(0, api.TokBar))
	wantTokens(t, `&`, sign(0, api.TokAnd))
	wantTokens(t, `~`, sign(0, api.TokNot))
	wantTokens(t, `;`, sign(0, api.TokSemi))
}

func TestRowsOfTokens(t *testing.T) {
	wantTokens(t, "start S ;\nS = \"a\" S 'b'..'c' & ~ T | U; # so it is\n",
		sign(0, api.TokStart), name(6, "S"), sign(8, api.TokSemi),
		name(10, "S"), sign(12, api.TokIs), text(14, "a"), name(18, "S"), span(20, 'b', 'c'),
		sign(29, api.TokAnd), sign(31, api.TokNot), name(33, "T"),
		sign(35, api.TokBar), name(37, "U"), sign(38, api.TokSemi))
	wantTokens(t, `S="a"S'b'..'c'&~T|'d';start`,
		name(0, "S"), sign(1, api.TokIs), text(2, "a"), name(5, "S"), span(6, 'b', 'c'),
		sign(14, api.TokAnd), sign(15, api.TokNot), name(16, "T"), sign(17, api.TokBar),
		span(18, 'd', 'd'), sign(21, api.TokSemi), sign(22, api.TokStart))
	wantTokens(t, `;;==`, sign(0, api.TokSemi), sign(1, api.TokSemi), sign(2, api.TokIs), sign(3, api.TokIs))
	wantTokens(t, `"a""b"`, text(0, "a"), text(3, "b"))
	wantTokens(t, `'a''b'`, span(0, 'a', 'a'), span(3, 'b', 'b'))
	wantTokens(t, `'a'..'b''c'..'d'`, span(0, 'a', 'b'), span(8, 'c', 'd'))
}

func TestNames(t *testing.T) {
	for _, s := range []string{"A", "Z", "a", "z", "_", "__", "_9", "a0", "Az_09", "x_1y", "AZaz_059"} {
		wantTokens(t, s, name(0, s))
	}
	for c := range 256 {
		letter := 'A' <= c && c <= 'Z' || 'a' <= c && c <= 'z' || c == '_'
		got, _, _ := lex.Lex(string([]byte{byte(c)}))
		if (len(got) == 1 && got[0].Kind == api.TokName) != letter {
			t.Errorf("P2.1: byte %d begins a name: %v", c, got)
		}
		inside := letter || '0' <= c && c <= '9'
		s := string([]byte{'n', byte(c)})
		got, _, _ = lex.Lex(s)
		if (len(got) == 1 && got[0].Text == s) != inside {
			t.Errorf("P2.1: byte %d goes on with a name: %v", c, got)
		}
	}
}

func TestStart(t *testing.T) {
	wantTokens(t, "start start;start",
		sign(0, api.TokStart), sign(6, api.TokStart), sign(11, api.TokSemi), sign(12, api.TokStart))
	for _, s := range []string{"starts", "start_", "start1", "star", "Start", "START", "_start", "astart", "startstart"} {
		wantTokens(t, s, name(0, s))
	}
	wantTokens(t, `"start"`, text(0, "start"))
	wantTokens(t, "start#s", sign(0, api.TokStart))
}

func TestBlanks(t *testing.T) {
	wantTokens(t, "")
	wantTokens(t, " ")
	wantTokens(t, "\t\n\r ")
	wantTokens(t, "a\tb\nc\rd e", name(0, "a"), name(2, "b"), name(4, "c"), name(6, "d"), name(8, "e"))
	wantTokens(t, "  a  ", name(2, "a"))
	wantTokens(t, "sta rt", name(0, "sta"), name(4, "rt"))
	for c := range 256 {
		_, _, e := lex.Lex(string([]byte{byte(c)}))
		blank := slices.Contains([]int{9, 10, 13, 32}, c)
		begins := blank || c < 128 && strings.IndexByte("#=|&~;_abcdefghijklmnopqrstuvwxyzABCDEFGHIJKLMNOPQRSTUVWXYZ", byte(c)) >= 0
		if (e == api.OK) != begins {
			t.Errorf("P2.1: byte %d alone: %d", c, e)
		}
	}
}

func TestComments(t *testing.T) {
	wantTokens(t, "#")
	wantTokens(t, "#\n")
	wantTokens(t, "# \"not shut, '..' \\ \x00\x1f\x7f\xff#")
	wantTokens(t, "#\ra")
	wantTokens(t, "#a\nb", name(3, "b"))
	wantTokens(t, "a#b#c\nd#", name(0, "a"), name(6, "d"))
	wantTokens(t, "#\n#\n\n#x\n;", sign(8, api.TokSemi))
	wantTokens(t, `"#" '#' a`, text(0, "#"), span(4, '#', '#'), name(8, "a"))
	wantTokens(t, "'a'#..'b'\n", span(0, 'a', 'a'))
}

func TestTexts(t *testing.T) {
	wantTokens(t, `""`, text(0, ""))
	wantTokens(t, `""""`, text(0, ""), text(2, ""))
	wantTokens(t, `"it's"`, text(0, "it's"))
	wantTokens(t, `" a  b "`, text(0, " a  b "))
	wantTokens(t, `"\\\"\'"`, text(0, "\\\"'"))
	wantTokens(t, `"\\"`, text(0, "\\"))
	wantTokens(t, `"\""`, text(0, "\""))
	wantTokens(t, `"\'"`, text(0, "'"))
	wantTokens(t, `"\x00\x0a\x7f\x80\xff"`, text(0, "\x00\n\x7f\x80\xff"))
	wantTokens(t, `"\x41B\x43"`, text(0, "ABC"))
	wantTokens(t, `"\x414"`, text(0, "A4"))
	wantTokens(t, `"\\x41"`, text(0, `\x41`))
	long := strings.Repeat("n", 100)
	wantTokens(t, `"`+long+`"`, text(0, long))
}

func TestEachByteOfTexts(t *testing.T) {
	for c := range 256 {
		s := string([]byte{'"', byte(c), '"'})
		switch {
		case c == '"':
			wantFault(t, s, 2, api.ErrLexText)
		case c == '\\' || c < 32 || c > 126:
			wantFault(t, s, 0, api.ErrLexText)
		default:
			wantTokens(t, s, text(0, string([]byte{byte(c)})))
		}
	}
}

func TestEachByteOfRanges(t *testing.T) {
	for c := range 256 {
		s := string([]byte{'\'', byte(c), '\''})
		if c == '\'' || c == '\\' || c < 32 || c > 126 {
			wantFault(t, s, 0, api.ErrLexText)
			wantFault(t, "'a'.."+s, 0, api.ErrLexText)
			continue
		}
		wantTokens(t, s, span(0, c, c))
		wantTokens(t, "'~'.."+s, span(0, '~', c))
	}
}

func TestEachEscape(t *testing.T) {
	const digits = "0123456789abcdef"
	for c := range 256 {
		x := `\x` + string([]byte{digits[c/16], digits[c%16]})
		wantTokens(t, `"`+x+`"`, text(0, string([]byte{byte(c)})))
		wantTokens(t, `'`+x+`'`, span(0, c, c))
		wantTokens(t, `'`+x+`'..'`+x+`'`, span(0, c, c))
		s := string([]byte{'\\', byte(c)})
		if c == '\\' || c == '"' || c == '\'' {
			wantTokens(t, `"`+s+`"`, text(0, s[1:]))
			wantTokens(t, `'`+s+`'`, span(0, c, c))
			continue
		}
		wantFault(t, `"`+s+`"`, 0, api.ErrLexText)
		wantFault(t, `'`+s+`'`, 0, api.ErrLexText)
	}
}

func TestDigitsOfEscapes(t *testing.T) {
	for c := range 256 {
		digit := '0' <= c && c <= '9' || 'a' <= c && c <= 'f'
		for _, x := range []string{string([]byte{byte(c), '0'}), string([]byte{'0', byte(c)})} {
			_, _, e := lex.Lex(`"\x` + x + `"`)
			_, _, f := lex.Lex(`'\x` + x + `'`)
			if (e == api.OK) != digit || (f == api.OK) != digit {
				t.Errorf("P2.1: \\x%q: %d, %d", x, e, f)
			}
		}
	}
}

func TestRanges(t *testing.T) {
	wantTokens(t, `'a'..'z'`, span(0, 'a', 'z'))
	wantTokens(t, `'z'..'a'`, span(0, 'z', 'a'))
	wantTokens(t, `'\xff'..'\x00'`, span(0, 255, 0))
	wantTokens(t, `'\x00'`, span(0, 0, 0))
	wantTokens(t, `'a'..'a'`, span(0, 'a', 'a'))
	wantTokens(t, `'"'`, span(0, '"', '"'))
	wantTokens(t, `'"'..'\"'`, span(0, '"', '"'))
	wantTokens(t, `'\''..'\\'`, span(0, '\'', '\\'))
	wantTokens(t, `'.'..'.'`, span(0, '.', '.'))
	wantTokens(t, ` ' '..'~'`, span(1, ' ', '~'))
	wantTokens(t, `'a' 'b'..'c'`, span(0, 'a', 'a'), span(4, 'b', 'c'))
}

func TestLongNames(t *testing.T) {
	full := strings.Repeat("ab_4", api.MaxName/4)
	wantTokens(t, full, name(0, full))
	wantTokens(t, full+";"+full, name(0, full), sign(32, api.TokSemi), name(33, full))
	wantTokens(t, full+"#x", name(0, full))
	wantFault(t, full+"x", 0, api.ErrLexText)
	wantFault(t, "ok = "+full+"_ ;", 5, api.ErrLexText)
	wantFault(t, full+"1-", 0, api.ErrLexText)
	wantFault(t, strings.Repeat("start", 7), 0, api.ErrLexText)
	wantFault(t, strings.Repeat("a", api.MaxText), 0, api.ErrLexText)
}

func TestLongTexts(t *testing.T) {
	inner := strings.Repeat("x", api.MaxText-2)
	wantTokens(t, `"`+inner+`"`, text(0, inner))
	wantTokens(t, strings.Repeat("\n", api.MaxText-1)+"z", name(api.MaxText-1, "z"))
	wantTokens(t, "#"+strings.Repeat("\xff", api.MaxText-1))
	wantFault(t, strings.Repeat(" ", api.MaxText-1)+"\x00", api.MaxText-1, api.ErrLexByte)
	wantFault(t, "a"+strings.Repeat(" ", api.MaxText), 0, api.ErrLexText)
	wantFault(t, ";"+strings.Repeat("#", api.MaxText), 0, api.ErrLexText)
	wantFault(t, `"`+inner+`";`, 0, api.ErrLexText)
	got, _, e := lex.Lex(strings.Repeat(";", api.MaxText))
	if e != api.OK || len(got) != api.MaxText || got[api.MaxText-1] != sign(api.MaxText-1, api.TokSemi) {
		t.Errorf("P2.1: %d tokens, %d", len(got), e)
	}
}

func TestBytesThatBeginNoToken(t *testing.T) {
	for c := range 256 {
		known := c < 127 && c > 32 && strings.IndexByte(`"'#=|&~;_`, byte(c)) >= 0 ||
			'a' <= c && c <= 'z' || 'A' <= c && c <= 'Z' || slices.Contains([]int{9, 10, 13, 32}, c)
		if known {
			continue
		}
		s := string([]byte{byte(c)})
		wantFault(t, s, 0, api.ErrLexByte)
		wantFault(t, "a = b; "+s, 7, api.ErrLexByte)
		wantFault(t, "#\n;"+s+" \"", 3, api.ErrLexByte)
	}
	wantFault(t, "1a", 0, api.ErrLexByte)
	wantFault(t, "a.b", 1, api.ErrLexByte)
	wantFault(t, "é", 0, api.ErrLexByte)
	wantFault(t, "é'", 0, api.ErrLexByte)
	wantFault(t, "né", 1, api.ErrLexByte)
	wantFault(t, `\x41`, 0, api.ErrLexByte)
	wantFault(t, "..", 0, api.ErrLexByte)
}

func TestTextsThatAreNone(t *testing.T) {
	for _, s := range []string{
		`"`, `"a`, `"\`, `"\"`, `"\x`, `"\x4`, `"\x41`, `"\x"`, `"\x4"`, `"\x4g"`, `"\xg4"`, `"\x4A"`, `"\xA4"`,
		`"\X41"`, `"\n"`, `"\t"`, `"\0"`, `"\ "`, "\"\n\"", "\"\t\"", "\"\r\"", "\"\x00\"", "\"\x1f\"", "\"\x7f\"", "\"\x80\"", "\"\xff\"", `"é"`,
		"\"a\n", "\"\\\n\"", `"#`, `"abc'`,
	} {
		wantFault(t, s, 0, api.ErrLexText)
		wantFault(t, "a \n;"+s, 4, api.ErrLexText)
	}
}

func TestRangesThatAreNone(t *testing.T) {
	for _, s := range []string{
		`'`, `'a`, `''`, `'''`, `''''`, `'ab'`, `'a"`, `'a '`, `'\`, `'\'`, `'\x'`, `'\x4'`, `'\x4`, `'\x41`, `'\x4A'`, `'\n'`,
		"'\n'", "'\x7f'", "'\x80'", "'\x1f'", `'é'`,
		`'a'..`, `'a'..b`, `'a'.. 'b'`, "'a'..\n'b'", `'a'..#`, `'a'..'`, `'a'..''`, `'a'..'b`, `'a'..'bc'`, `'a'.."b"`,
		`'a'...'b'`, `'a'..'\'`, `'a'..'\x4'`, `'a'..'''`, `'a'..;`,
	} {
		wantFault(t, s, 0, api.ErrLexText)
		wantFault(t, "a \n;"+s, 4, api.ErrLexText)
	}
}

func TestDotsBehindRanges(t *testing.T) {
	wantFault(t, `'a'.`, 3, api.ErrLexByte)
	wantFault(t, `'a'.'b'`, 3, api.ErrLexByte)
	wantFault(t, `'a'. .'b'`, 3, api.ErrLexByte)
	wantFault(t, `'a' ..'b'`, 4, api.ErrLexByte)
	wantFault(t, "'a'#\n..'b'", 5, api.ErrLexByte)
	wantFault(t, `'a'..'b'.`, 8, api.ErrLexByte)
	wantFault(t, `'a'..'b'..'c'`, 8, api.ErrLexByte)
	wantFault(t, `"a".."b"`, 3, api.ErrLexByte)
}

func TestFirstFaultOfSeveral(t *testing.T) {
	wantFault(t, `a - "b`, 2, api.ErrLexByte)
	wantFault(t, `"b - \q`, 0, api.ErrLexText)
	wantFault(t, `"b" - "b`, 4, api.ErrLexByte)
	wantFault(t, `'a'..- -`, 0, api.ErrLexText)
	wantFault(t, `; '' "`, 2, api.ErrLexText)
	wantFault(t, strings.Repeat("n", 33)+" \x00", 0, api.ErrLexText)
	wantFault(t, "\x00 "+strings.Repeat("n", 33), 0, api.ErrLexByte)
	wantFault(t, "- "+strings.Repeat(" ", api.MaxText), 0, api.ErrLexText)
}

// reference tells tokens by patterns, another way than the program's.
type reference struct {
	blank, word, text, one, two, escape *regexp.Regexp
}

func newReference() reference {
	const inText, inRange = `([ !#-\[\]-~]|\\["'\\]|\\x[0-9a-f]{2})`, `([ -&(-\[\]-~]|\\["'\\]|\\x[0-9a-f]{2})`
	return reference{
		blank:  regexp.MustCompile(`^([\t\n\r ]|#[^\n]*)`),
		word:   regexp.MustCompile(`^[A-Za-z_][A-Za-z_0-9]*`),
		text:   regexp.MustCompile(`^"` + inText + `*"`),
		one:    regexp.MustCompile(`^'` + inRange + `'`),
		two:    regexp.MustCompile(`^'` + inRange + `'\.\.'` + inRange + `'`),
		escape: regexp.MustCompile(`\\(x..|.)`),
	}
}

// plain is what is written in s.
func (r reference) plain(s string) string {
	return r.escape.ReplaceAllStringFunc(s, func(e string) string {
		if e[1] != 'x' {
			return e[1:]
		}
		const digits = "0123456789abcdef"
		return string([]byte{byte(strings.IndexByte(digits, e[2])<<4 | strings.IndexByte(digits, e[3]))})
	})
}

// at is the token at a place of s and its length; a kind of -1 is a blank.
func (r reference) at(s string, at int) (api.Token, int, api.Errno) {
	rest := s[at:]
	if b := r.blank.FindString(rest); b != "" {
		return api.Token{Kind: -1}, len(b), api.OK
	}
	if w := r.word.FindString(rest); w == "start" {
		return sign(at, api.TokStart), len(w), api.OK
	} else if w != "" {
		return name(at, w), len(w), api.OK
	}
	if x := r.text.FindString(rest); x != "" {
		return text(at, r.plain(x[1:len(x)-1])), len(x), api.OK
	}
	if m := r.two.FindStringSubmatch(rest); m != nil {
		return span(at, int(r.plain(m[1])[0]), int(r.plain(m[2])[0])), len(m[0]), api.OK
	}
	if m := r.one.FindStringSubmatch(rest); m != nil && !strings.HasPrefix(rest[len(m[0]):], "..") {
		return span(at, int(r.plain(m[1])[0]), int(r.plain(m[1])[0])), len(m[0]), api.OK
	}
	if i := strings.IndexByte("=|&~;", rest[0]); i >= 0 {
		return sign(at, []int{api.TokIs, api.TokBar, api.TokAnd, api.TokNot, api.TokSemi}[i]), 1, api.OK
	}
	if rest[0] == '"' || rest[0] == '\'' {
		return api.Token{}, 0, api.ErrLexText
	}
	return api.Token{}, 0, api.ErrLexByte
}

func (r reference) lex(s string) ([]api.Token, int, api.Errno) {
	var out []api.Token
	for at := 0; at < len(s); {
		token, n, e := r.at(s, at)
		if e != api.OK {
			return nil, at, e
		}
		if token.Kind >= 0 {
			out = append(out, token)
		}
		at += n
	}
	return out, 0, api.OK
}

// eachRow tells each row of at most n of the parts.
func eachRow(parts []string, n int, tell func(s string)) {
	var grow func(s string, n int)
	grow = func(s string, n int) {
		tell(s)
		if n == 0 {
			return
		}
		for _, p := range parts {
			grow(s+p, n-1)
		}
	}
	grow("", n)
}

func TestAgainstPatterns(t *testing.T) {
	r := newReference()
	check := func(s string) {
		want, place, fault := r.lex(s)
		got, at, e := lex.Lex(s)
		if !slices.Equal(got, want) || at != place || e != fault {
			t.Errorf("P2.1: Lex(%q) = %v, %d, %d, not %v, %d, %d", s, got, at, e, want, place, fault)
		}
	}
	eachRow([]string{"a", "'", "\"", "\\", ".", " "}, 6, check)
	eachRow([]string{"'", "'..'", "\\x", "4", "\"", "#", "\n", "start"}, 5, check)
	eachRow([]string{"'a'", "..", "\"b\"", "c", "~", "\t", "-", "\x7f"}, 4, check)
}

func TestTokensShareNoMemory(t *testing.T) {
	const s = `S = "a" 'b'..'c';`
	want := []api.Token{name(0, "S"), sign(2, api.TokIs), text(4, "a"), span(8, 'b', 'c'), sign(16, api.TokSemi)}
	first, _, _ := lex.Lex(s)
	second, _, _ := lex.Lex(s)
	for i := range first {
		first[i] = name(99, "other")
	}
	_ = append(first[:1], name(98, "more"))
	if !slices.Equal(second, want) {
		t.Errorf("R4: %v", second)
	}
	wantTokens(t, s, want...)
}

func TestCallsFromSeveralGoroutines(t *testing.T) {
	var all sync.WaitGroup
	for range 8 {
		all.Go(func() {
			for range 100 {
				got, _, e := lex.Lex("start S; S = \"ab\" '0'..'9';")
				_, at, f := lex.Lex("S = \"ab")
				if e != api.OK || len(got) != 8 || at != 4 || f != api.ErrLexText {
					t.Error("R5: an answer hangs on other calls")
					return
				}
			}
		})
	}
	all.Wait()
}
