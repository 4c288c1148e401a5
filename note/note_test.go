package note_test

import (
	"fmt"
	"reflect"
	"regexp"
	"strconv"
	"strings"
	"sync"
	"testing"

	"temple/api"
	"temple/lex"
	"temple/note"
)

func name(text string) api.RawItem {
	return api.RawItem{Kind: api.TokName, Text: text}
}

func text(bytes string) api.RawItem {
	return api.RawItem{Kind: api.TokText, Text: bytes}
}

func span(lo, hi int) api.RawItem {
	return api.RawItem{Kind: api.TokRange, Lo: lo, Hi: hi}
}

func is(items ...api.RawItem) api.RawConj {
	return api.RawConj{Items: items}
}

func isNot(items ...api.RawItem) api.RawConj {
	return api.RawConj{Neg: true, Items: items}
}

func alt(conjuncts ...api.RawConj) []api.RawConj {
	return conjuncts
}

func def(name string, alts ...[]api.RawConj) api.RawDef {
	return api.RawDef{Name: name, Alts: alts}
}

func defs(all ...api.RawDef) api.Raw {
	return api.Raw{Defs: all}
}

// plain is r with nil in place of each empty list: both are one.
func plain(r api.Raw) api.Raw {
	var out api.Raw
	out.Starts = append(out.Starts, r.Starts...)
	for _, d := range r.Defs {
		var alts [][]api.RawConj
		for _, a := range d.Alts {
			var conjuncts []api.RawConj
			for _, c := range a {
				conjuncts = append(conjuncts, api.RawConj{Neg: c.Neg, Items: append([]api.RawItem(nil), c.Items...)})
			}
			alts = append(alts, conjuncts)
		}
		out.Defs = append(out.Defs, api.RawDef{Name: d.Name, Alts: alts})
	}
	return out
}

// brief tells the beginning of something that may be long.
func brief(r api.Raw) string {
	return fmt.Sprintf("%.200s", fmt.Sprint(r))
}

// wantRaw holds s against what it declares; R2: no place beside it.
func wantRaw(t *testing.T, s string, want api.Raw) {
	t.Helper()
	got, at, e := note.Parse(s)
	if e != api.OK || at != 0 || !reflect.DeepEqual(plain(got), plain(want)) {
		t.Errorf("P3.1: Parse(%.80q) = %s, %d, %d, not %s", s, brief(got), at, e, brief(want))
	}
}

// wantFault holds s against its fault; R2: nothing is declared beside it.
func wantFault(t *testing.T, s string, at int, fault api.Errno) {
	t.Helper()
	got, place, e := note.Parse(s)
	if e != fault || place != at || len(got.Starts)+len(got.Defs) != 0 {
		t.Errorf("P3.1: Parse(%.80q) = %s, %d, %d, not %d, %d", s, brief(got), place, e, at, fault)
	}
}

func TestNothingDeclared(t *testing.T) {
	for _, s := range []string{"", " ", "\t\n\r ", "#", "# S = a", "#\n", " # start S;\n\t# S = ;\n ", "#\xff\x00\n"} {
		wantRaw(t, s, api.Raw{})
	}
}

func TestStarts(t *testing.T) {
	wantRaw(t, "start S;", api.Raw{Starts: []string{"S"}})
	wantRaw(t, " start # which\n S\t;\r", api.Raw{Starts: []string{"S"}})
	wantRaw(t, "start B;start A;start B;", api.Raw{Starts: []string{"B", "A", "B"}})
	wantRaw(t, "start starts;start _9;", api.Raw{Starts: []string{"starts", "_9"}})
}

func TestDefinitions(t *testing.T) {
	a := alt(is(name("a")))
	b := alt(is(name("b")))
	wantRaw(t, "S = a;", defs(def("S", a)))
	wantRaw(t, "S=a;T=b;", defs(def("S", a), def("T", b)))
	wantRaw(t, "T=b;S=a;", defs(def("T", b), def("S", a)))
	wantRaw(t, "S=a;T=a;S=b;S=a;", defs(def("S", a), def("T", a), def("S", b), def("S", a)))
	wantRaw(t, "a = a;", defs(def("a", a)))
}

func TestBothKindsInTheirRow(t *testing.T) {
	wantRaw(t, "T=a; start S; S=b; start T; start S; T=a;", api.Raw{
		Starts: []string{"S", "T", "S"},
		Defs: []api.RawDef{
			def("T", alt(is(name("a")))),
			def("S", alt(is(name("b")))),
			def("T", alt(is(name("a")))),
		},
	})
}

func TestAlternatives(t *testing.T) {
	a, b, c := is(name("a")), is(name("b")), is(name("c"))
	wantRaw(t, "S = a | b;", defs(def("S", alt(a), alt(b))))
	wantRaw(t, "S = c | a | b | a;", defs(def("S", alt(c), alt(a), alt(b), alt(a))))
	wantRaw(t, "S = a | b; T = c;", defs(def("S", alt(a), alt(b)), def("T", alt(c))))
}

func TestConjuncts(t *testing.T) {
	a, b, c := is(name("a")), is(name("b")), is(name("c"))
	wantRaw(t, "S = a & b;", defs(def("S", alt(a, b))))
	wantRaw(t, "S = c & a & a & b;", defs(def("S", alt(c, a, a, b))))
	wantRaw(t, "S = a & b | c;", defs(def("S", alt(a, b), alt(c))))
	wantRaw(t, "S = a | b & c;", defs(def("S", alt(a), alt(b, c))))
	wantRaw(t, "S = a & b | c & a | b; T = c;", defs(def("S", alt(a, b), alt(c, a), alt(b)), def("T", alt(c))))
}

func TestNot(t *testing.T) {
	a, b := name("a"), name("b")
	wantRaw(t, "S = ~a;", defs(def("S", alt(isNot(a)))))
	wantRaw(t, "S = ~ a b;", defs(def("S", alt(isNot(a, b)))))
	wantRaw(t, "S = ~a & b;", defs(def("S", alt(isNot(a), is(b)))))
	wantRaw(t, "S = a & ~b;", defs(def("S", alt(is(a), isNot(b)))))
	wantRaw(t, "S = ~a & ~b;", defs(def("S", alt(isNot(a), isNot(b)))))
	wantRaw(t, "S = ~a | b;", defs(def("S", alt(isNot(a)), alt(is(b)))))
	wantRaw(t, "S = a | ~b;", defs(def("S", alt(is(a)), alt(isNot(b)))))
	wantRaw(t, "S = ~a; T = b;", defs(def("S", alt(isNot(a))), def("T", alt(is(b)))))
	wantRaw(t, `S = ~"a" | ~'a';`, defs(def("S", alt(isNot(text("a"))), alt(isNot(span('a', 'a'))))))
}

func TestItems(t *testing.T) {
	wantRaw(t, "S = name_1;", defs(def("S", alt(is(name("name_1"))))))
	wantRaw(t, `S = "text";`, defs(def("S", alt(is(text("text"))))))
	wantRaw(t, `S = "";`, defs(def("S", alt(is(text(""))))))
	wantRaw(t, `S = "start";`, defs(def("S", alt(is(text("start"))))))
	wantRaw(t, `S = "\x00\"\\\xff";`, defs(def("S", alt(is(text("\x00\"\\\xff"))))))
	wantRaw(t, `S = "=|&~;#";`, defs(def("S", alt(is(text("=|&~;#"))))))
	wantRaw(t, `S = 'r';`, defs(def("S", alt(is(span('r', 'r'))))))
	wantRaw(t, `S = 'a'..'z';`, defs(def("S", alt(is(span('a', 'z'))))))
	wantRaw(t, `S = 'z'..'a';`, defs(def("S", alt(is(span('z', 'a'))))))
	wantRaw(t, `S = '\x00'..'\xff';`, defs(def("S", alt(is(span(0, 255))))))
	wantRaw(t, `S = '\x00';`, defs(def("S", alt(is(span(0, 0))))))
}

func TestSeveralItems(t *testing.T) {
	a, x, r := name("a"), text("x"), span('0', '9')
	wantRaw(t, `S = a "x" '0'..'9';`, defs(def("S", alt(is(a, x, r)))))
	wantRaw(t, `S = '0'..'9'"x"a;`, defs(def("S", alt(is(r, x, a)))))
	wantRaw(t, `S = a a "x""x"'0'..'9''0'..'9' a;`, defs(def("S", alt(is(a, a, x, x, r, r, a)))))
	wantRaw(t, "S = S S;", defs(def("S", alt(is(name("S"), name("S"))))))
	wantRaw(t, `S = a "x" & ~ "x" a | '0'..'9' a a;`,
		defs(def("S", alt(is(a, x), isNot(x, a)), alt(is(r, a, a)))))
	wantRaw(t, "S=a#b\n|#&\nb#;\n;#", defs(def("S", alt(is(a)), alt(is(name("b"))))))
}

func TestTextsTooLong(t *testing.T) {
	blanks := strings.Repeat(" ", api.MaxText)
	wantFault(t, blanks+" ", 0, api.ErrNoteLong)
	wantFault(t, "start S; S = a;"+blanks, 0, api.ErrNoteLong)
	wantFault(t, "S = ;"+blanks, 0, api.ErrNoteLong)
	wantFault(t, "?"+blanks, 0, api.ErrNoteLong)
	wantFault(t, strings.Repeat("\xff", api.MaxText+1), 0, api.ErrNoteLong)
	wantFault(t, strings.Repeat(";", 4*api.MaxText), 0, api.ErrNoteLong)
}

func TestTextsOfJustMaxText(t *testing.T) {
	const s = "start S;"
	blanks := strings.Repeat(" ", api.MaxText-len(s))
	wantRaw(t, strings.Repeat(" ", api.MaxText), api.Raw{})
	wantRaw(t, s+blanks, api.Raw{Starts: []string{"S"}})
	wantRaw(t, blanks+s, api.Raw{Starts: []string{"S"}})
	inner := strings.Repeat("x", api.MaxText-len(`S="";`))
	wantRaw(t, `S="`+inner+`";`, defs(def("S", alt(is(text(inner))))))
	wantFault(t, strings.Repeat(" ", api.MaxText-1)+";", api.MaxText-1, api.ErrNoteForm)
	wantFault(t, "S ="+strings.Repeat(" ", api.MaxText-3), api.MaxText, api.ErrNoteForm)
	wantFault(t, strings.Repeat(" ", api.MaxText-1)+"?", api.MaxText-1, api.ErrNoteForm)
}

// TestLongRows: as many of each part as a text of MaxText bytes holds.
func TestLongRows(t *testing.T) {
	row := func(head, part, tail string) string {
		return head + strings.Repeat(part, (api.MaxText-len(head)-len(tail))/len(part)) + tail
	}
	for _, c := range []struct {
		s     string
		count func(r api.Raw) int
		want  int
	}{
		{row("", "start S;", ""), func(r api.Raw) int { return len(r.Starts) }, 8192},
		{row("", "S=a;", ""), func(r api.Raw) int { return len(r.Defs) }, 16384},
		{row("S=", "a|", "a;"), func(r api.Raw) int { return len(r.Defs[0].Alts) }, 32767},
		{row("S=", "a&", "a;"), func(r api.Raw) int { return len(r.Defs[0].Alts[0]) }, 32767},
		{row("S=", "a ", "a;"), func(r api.Raw) int { return len(r.Defs[0].Alts[0][0].Items) }, 32767},
	} {
		r, at, e := note.Parse(c.s)
		if e != api.OK || at != 0 || c.count(r) != c.want {
			t.Errorf("P3.1: Parse(%.20q..) of %d bytes: %d, %d", c.s, len(c.s), at, e)
		}
	}
}

func TestWhatHasNoTokens(t *testing.T) {
	const long = "n23456789_123456789_123456789_123"
	for _, bad := range []string{
		"?", "1", ".", "\x00", "\x7f", "\xff", "é", // ErrLexByte
		long, `"`, `"a`, `"\q"`, "\"\n\"", `"\x4A"`, `'`, `''`, `'ab'`, `'a'..`, `'a'..b`, // ErrLexText
	} {
		_, at, e := lex.Lex(bad)
		if at != 0 || e == api.OK {
			t.Fatalf("%q has tokens", bad)
		}
		for _, ahead := range []string{"", " ", "start ", "start S; ", "S ", "S = ", "S = ~", "S = a ", "S = a |", "S = a;\n", "#\n"} {
			wantFault(t, ahead+bad, len(ahead), api.ErrNoteForm)
		}
	}
	for _, s := range []string{`S = "a" ? "b";`, `S = 'a'.'b';`, `S = a; "`, `S = "b" 'c'..'d'..'e';`} {
		_, at, _ := lex.Lex(s)
		wantFault(t, s, at, api.ErrNoteForm)
	}
}

// TestFaultsOfTokensComeFirst: R6, wherever the fault of the notation stands.
func TestFaultsOfTokensComeFirst(t *testing.T) {
	wantFault(t, "S S ?", 4, api.ErrNoteForm)
	wantFault(t, "; ?", 2, api.ErrNoteForm)
	wantFault(t, `start ; S = a; "`, 15, api.ErrNoteForm)
	wantFault(t, "S = | a; T = ''", 13, api.ErrNoteForm)
	wantFault(t, "S = ~~a ? ;;", 8, api.ErrNoteForm)
	wantFault(t, "? S S", 0, api.ErrNoteForm)
	wantFault(t, `S = ; "`+strings.Repeat("x", 100), 6, api.ErrNoteForm)
	wantFault(t, "start start ? - .", 12, api.ErrNoteForm)
	wantFault(t, "S = ;; # ?", 4, api.ErrNoteForm)
}

// written is how one token of each kind is written, by its number.
func written() [9]string {
	return [9]string{"n", `"x"`, "'r'", "start", "=", "|", "&", "~", ";"}
}

// TestEachPlace holds each kind of token against each place of the notation.
func TestEachPlace(t *testing.T) {
	item := []int{api.TokName, api.TokText, api.TokRange}
	conjunct := append([]int{api.TokNot}, item...)
	goesOn := append([]int{api.TokAnd, api.TokBar, api.TokSemi}, item...)
	declaration := []int{api.TokStart, api.TokName}
	for _, place := range []struct {
		ahead string
		may   []int
	}{
		{"", declaration}, {"start S;", declaration}, {"S = a;", declaration}, {"S = a; start S; ", declaration},
		{"start ", []int{api.TokName}},
		{"start S ", []int{api.TokSemi}},
		{"S ", []int{api.TokIs}}, {"S = a; S ", []int{api.TokIs}},
		{"S = ", conjunct}, {"S = a | ", conjunct}, {"S = a & ", conjunct}, {"S = ~a | ", conjunct}, {"S = ~a & ", conjunct},
		{"S = ~", item}, {"S = a & ~ ", item}, {"S = ~a | ~", item},
		{"S = a ", goesOn}, {`S = "x" `, goesOn}, {"S = 'r' ", goesOn}, {"S = ~a ", goesOn}, {"S = a b ", goesOn},
		{"S = a | b ", goesOn}, {"S = a & b ", goesOn}, {"S = a & ~b 'c' ", goesOn},
	} {
		for kind, token := range written() {
			at := len(place.ahead)
			for _, may := range place.may {
				if kind == may {
					at = -1
				}
			}
			for _, behind := range []string{"", " ", "#", " ;", " ;;;", " = = start"} {
				_, got, e := note.Parse(place.ahead + token + behind)
				if at >= 0 && (got != at || e != api.ErrNoteForm) || at < 0 && e != api.OK && got <= len(place.ahead) {
					t.Errorf("P3.1: %q behind %q: %d, %d", token+behind, place.ahead, got, e)
				}
			}
		}
	}
}

func TestTokensThatCannotCome(t *testing.T) {
	wantFault(t, ";", 0, api.ErrNoteForm)
	wantFault(t, "  ;", 2, api.ErrNoteForm)
	wantFault(t, "= a;", 0, api.ErrNoteForm)
	wantFault(t, `"a" = b;`, 0, api.ErrNoteForm)
	wantFault(t, "'a' = b;", 0, api.ErrNoteForm)
	wantFault(t, "start ;", 6, api.ErrNoteForm)
	wantFault(t, "start start;", 6, api.ErrNoteForm)
	wantFault(t, `start "S";`, 6, api.ErrNoteForm)
	wantFault(t, "start = a;", 6, api.ErrNoteForm)
	wantFault(t, "start S T;", 8, api.ErrNoteForm)
	wantFault(t, "start S = a;", 8, api.ErrNoteForm)
	wantFault(t, "S ;", 2, api.ErrNoteForm)
	wantFault(t, "S | a;", 2, api.ErrNoteForm)
	wantFault(t, "S = ;", 4, api.ErrNoteForm)
	wantFault(t, "S = & a;", 4, api.ErrNoteForm)
	wantFault(t, "S = = a;", 4, api.ErrNoteForm)
	wantFault(t, "S = start;", 4, api.ErrNoteForm)
	wantFault(t, "S = a || b;", 7, api.ErrNoteForm)
	wantFault(t, "S = a && b;", 7, api.ErrNoteForm)
	wantFault(t, "S = a |& b;", 7, api.ErrNoteForm)
	wantFault(t, "S = a ~b;", 6, api.ErrNoteForm)
	wantFault(t, "S = ~ ~b;", 6, api.ErrNoteForm)
	wantFault(t, "S = ~& b;", 5, api.ErrNoteForm)
	wantFault(t, "S = a\nstart S;", 6, api.ErrNoteForm)
	wantFault(t, "S = a\nT = b;", 8, api.ErrNoteForm)
	wantFault(t, "S = a;# no more\n ;", 17, api.ErrNoteForm)
	wantFault(t, "start S; S = a; = ; ;", 16, api.ErrNoteForm)
}

func TestTextsThatEndTooEarly(t *testing.T) {
	for _, s := range []string{
		"start", "start S", "S", "S =", "S = ~", "S = a", `S = ""`, "S = 'a'..'b'", "S = ~a", "S = a b",
		"S = a |", "S = a &", "S = a | b", "S = a & ~", "S = a & ~b",
	} {
		for _, ahead := range []string{"", "start S;", "S = a;\n", "# x\n"} {
			for _, behind := range []string{"", " ", "\n\n", "#", " # ; \n", " # ;"} {
				all := ahead + s + behind
				wantFault(t, all, len(all), api.ErrNoteForm)
			}
		}
	}
}

// kindSigns has one byte for each kind of token, by its number.
const kindSigns = "nxrs=|&~;"

// notation is the notation as a pattern of such bytes.
const notation = `^(sn;|n=~?[nxr]+([|&]~?[nxr]+)*;)*$`

// firstFault is the number of the first token that cannot come: no more is
// ever lacking behind what can than one of four rows. The count of tokens: it
// ends too early; -1: there is no fault.
func firstFault(pattern *regexp.Regexp, row string) int {
	for i := range len(row) + 1 {
		begun := row[:i]
		if !pattern.MatchString(begun) && !pattern.MatchString(begun+";") &&
			!pattern.MatchString(begun+"n;") && !pattern.MatchString(begun+"=n;") {
			return i - 1
		}
	}
	if !pattern.MatchString(row) {
		return len(row)
	}
	return -1
}

// write is a row as a text, what each token holds its number in the row, and
// where each of them begins, with where the text ends behind all.
func write(row string) (string, []int) {
	var s strings.Builder
	var at []int
	for i := range len(row) {
		s.WriteString(" ")
		at = append(at, s.Len())
		number := strconv.Itoa(i)
		switch row[i] {
		case 'n':
			s.WriteString("n" + number)
		case 'x':
			s.WriteString(`"` + number + `"`)
		case 'r':
			s.WriteString("'" + string(rune('0'+i)) + "'..'~'")
		case 's':
			s.WriteString("start")
		default:
			s.WriteString(row[i : i+1])
		}
	}
	return s.String(), append(at, s.Len())
}

// items is what a row of items from token number i on is.
func items(row string, i int) []api.RawItem {
	var out []api.RawItem
	for k := range len(row) {
		number := strconv.Itoa(i + k)
		switch row[k] {
		case 'n':
			out = append(out, name("n"+number))
		case 'x':
			out = append(out, text(number))
		case 'r':
			out = append(out, span('0'+i+k, '~'))
		}
	}
	return out
}

// body is what a definition's row has behind TokIs, from token number i on.
func body(row string, i int) [][]api.RawConj {
	var out [][]api.RawConj
	for _, a := range strings.Split(row, "|") {
		var conjuncts []api.RawConj
		for _, c := range strings.Split(a, "&") {
			rest, neg := strings.CutPrefix(c, "~")
			conjuncts = append(conjuncts, api.RawConj{Neg: neg, Items: items(rest, i+len(c)-len(rest))})
			i += len(c) + 1
		}
		out = append(out, conjuncts)
	}
	return out
}

// declared is what a row without a fault declares, told by cutting it apart.
func declared(row string) api.Raw {
	var out api.Raw
	i := 0
	for _, d := range strings.SplitAfter(row, ";") {
		switch {
		case strings.HasPrefix(d, "s"):
			out.Starts = append(out.Starts, "n"+strconv.Itoa(i+1))
		case d != "":
			out.Defs = append(out.Defs, def("n"+strconv.Itoa(i), body(d[2:len(d)-1], i+2)...))
		}
		i += len(d)
	}
	return out
}

// eachRow tells each row of at most n of the signs, behind what is begun.
func eachRow(begun, signs string, n int, tell func(row string)) {
	tell(begun)
	if n == 0 {
		return
	}
	for i := range len(signs) {
		eachRow(begun+signs[i:i+1], signs, n-1, tell)
	}
}

func TestAgainstAPattern(t *testing.T) {
	pattern := regexp.MustCompile(notation)
	taken := 0
	check := func(row string) {
		s, at := write(row)
		fault := firstFault(pattern, row)
		if fault >= 0 {
			wantFault(t, s, at[fault], api.ErrNoteForm)
			return
		}
		taken++
		wantRaw(t, s, declared(row))
	}
	eachRow("", kindSigns, 5, check)
	eachRow("n=", kindSigns, 4, check)
	eachRow("n=", "nr|&~;", 7, check)
	eachRow("sn;n=x;", "ns=;", 6, check)
	if taken < 1000 {
		t.Errorf("only %d rows were declarations", taken)
	}
}

const sample = "start S; S = \"ab\" T 'a' & ~ 'a'..'z' T | T & T & T | ~ S S S; start T; T = \"\" | \"c\" | T; U = S;"

func sampleRaw() api.Raw {
	s, x := name("S"), name("T")
	return api.Raw{Starts: []string{"S", "T"}, Defs: []api.RawDef{
		def("S", alt(is(text("ab"), x, span('a', 'a')), isNot(span('a', 'z'), x)), alt(is(x), is(x), is(x)), alt(isNot(s, s, s))),
		def("T", alt(is(text(""))), alt(is(text("c"))), alt(is(x))),
		def("U", alt(is(s))),
	}}
}

// scribble writes over a list from a place on, its spare room too.
func scribble[T any](list []T, from int, junk T) {
	whole := list[:cap(list)]
	for i := from; i < len(whole); i++ {
		whole[i] = junk
	}
}

// scribbleSpare writes over the spare room of each list of r.
func scribbleSpare(r api.Raw) {
	scribble(r.Starts, len(r.Starts), "junk")
	for _, d := range r.Defs {
		for _, a := range d.Alts {
			for _, c := range a {
				scribble(c.Items, len(c.Items), name("junk"))
			}
			scribble(a, len(a), isNot(name("junk")))
		}
		scribble(d.Alts, len(d.Alts), alt(is(name("junk"))))
	}
	scribble(r.Defs, len(r.Defs), def("junk"))
}

// scribbleAll writes over all of r.
func scribbleAll(r api.Raw) {
	scribble(r.Starts, 0, "junk")
	for _, d := range r.Defs {
		for _, a := range d.Alts {
			for _, c := range a {
				scribble(c.Items, 0, name("junk"))
			}
			scribble(a, 0, isNot(name("junk")))
		}
		scribble(d.Alts, 0, alt(is(name("junk"))))
	}
	scribble(r.Defs, 0, def("junk"))
}

func TestListsShareNoMemory(t *testing.T) {
	wantRaw(t, sample, sampleRaw())
	r, _, _ := note.Parse(sample)
	scribbleSpare(r)
	if !reflect.DeepEqual(plain(r), sampleRaw()) {
		t.Errorf("R4: lists of one answer share memory: %v", r)
	}
	r.Defs[0].Alts[0][0].Items[1] = name("junk")
	want := sampleRaw()
	want.Defs[0].Alts[0][0].Items[1] = name("junk")
	if !reflect.DeepEqual(plain(r), want) {
		t.Errorf("R4: lists of one answer share memory: %v", r)
	}
}

func TestAnswersShareNoMemory(t *testing.T) {
	first, _, _ := note.Parse(sample)
	second, _, _ := note.Parse(sample)
	scribbleAll(first)
	if !reflect.DeepEqual(plain(second), sampleRaw()) {
		t.Errorf("R4: two answers share memory: %v", second)
	}
	wantRaw(t, sample, sampleRaw())
}

// TestNothingIsKept: R5, a call hangs on no earlier one, nor on one refused.
func TestNothingIsKept(t *testing.T) {
	for _, other := range []string{"start T; T = a & ~b", "S = ~", "start", "S = a | ?", "S", sample} {
		note.Parse(other)
		wantRaw(t, sample, sampleRaw())
		wantRaw(t, "", api.Raw{})
	}
}

func TestCallsFromSeveralGoroutines(t *testing.T) {
	var all sync.WaitGroup
	for range 8 {
		all.Go(func() {
			for range 100 {
				got, _, e := note.Parse(sample)
				_, at, f := note.Parse("S = a ~b;")
				if e != api.OK || !reflect.DeepEqual(plain(got), sampleRaw()) || at != 6 || f != api.ErrNoteForm {
					t.Error("R5: an answer hangs on other calls")
					return
				}
			}
		})
	}
	all.Wait()
}
