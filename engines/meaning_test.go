package engines_test

import (
	"slices"
	"strings"
	"testing"

	"temple/api"
	"temple/samples"
)

func TestUnions(t *testing.T) {
	wantTexts(t, `start S; S = "a" | "bb" | "";`, like(`a|bb|`))
	wantTexts(t, `start S; S = T | U | "cc"; T = "a" T | "a"; U = U "b" | "b";`, like(`a+|b+|cc`))
	wantTexts(t, `start S; S = "a" & "b" | "c" | "b" & "c";`, like(`c`))
	wantTexts(t, `start S; S = ~ "a" | ~ "b";`, always)
	wantTexts(t, `start S; S = "ab" "c" 'a'..'c' | 'b'..'c' 'a'..'b';`, like(`abc[abc]|[bc][ab]`))
}

func TestConjunctions(t *testing.T) {
	wantTexts(t, `start S; S = A & B; A = 'a'..'c' A | "a"; B = "b" | B 'a'..'c';`, like(`b[abc]*a`))
	wantTexts(t, `start S; S = "a" & "b";`, never)
	wantTexts(t, `start S; S = "a" & "a" & 'a'..'c';`, like(`a`))
	// That one of them is there ahead of the others counts for nothing.
	wantTexts(t, `start S; S = A & B; A = "a" | A A; B = "aa" | "aa" B;`, like(`(aa)+`))
	wantTexts(t, `start S; S = S "b" & T | "a"; T = S 'b'..'c' | U; U = T;`, like(`ab*`))
}

func TestNegations(t *testing.T) {
	wantTexts(t, `start S; S = ~ "";`, unlike(``))
	wantTexts(t, `start S; S = ~ "a" & ~ "b" & ~ "";`, unlike(`a|b|`))
	wantTexts(t, `start S; S = A & ~ "a"; A = "a" A | "";`, like(`|aaa*`))
	wantTexts(t, `start S; S = ~ "a" & A; A = "a" A | "";`, like(`|aaa*`))
	wantTexts(t, `start S; S = "a" & ~ "a";`, never)
	wantTexts(t, `start S; S = ~ T; T = T;`, always)
}

// TestLevels: what a name is not, and what that is not.
func TestLevels(t *testing.T) {
	wantTexts(t, `start S; S = ~ T; T = "a" T | "";`, unlike(`a*`))
	wantTexts(t, `start S; S = ~ T; T = ~ U; U = "a" U | "";`, like(`a*`))
	wantTexts(t, `start S; S = ~ T; T = ~ U; U = ~ V; V = "a" V | "";`, unlike(`a*`))
	wantTexts(t, `start S; S = "b" N; N = ~ T; T = "a" T | "";`, like(`b.*[^a].*`))
	wantTexts(t, `start S; S = N "b" N; N = ~ T; T = 'a'..'c' T | "c";`, like(`(.*[^c])?b(.*[^c])?`))
	wantTexts(t, `start S; S = A & ~ N; A = "a" A | ""; N = A "a" & ~ O; O = "aa" O | "a";`, like(`|a(aa)*`))
	wantTexts(t, `start S; S = ~ T & ~ U; T = ~ V; U = "aa"; V = "a" V | "";`, func(s string) bool { return like(`a*`)(s) && s != "aa" })
}

// TestManyLevels: each name is what the one behind it, or ahead of it, is not.
func TestManyLevels(t *testing.T) {
	down, up := named(api.MaxNames), named(api.MaxNames)
	for i := range api.MaxNames {
		down.Rules = append(down.Rules, rule(i, rowNot(ref(min(i+1, api.MaxNames-1)))))
		up.Rules = append(up.Rules, rule(i, rowNot(ref(max(i-1, 0)))))
	}
	ground := row(span('a', 'b'), span('c', 'c'))
	down.Rules[api.MaxNames-1].Conj[0], up.Rules[0].Conj[0] = ground, ground
	for i := range api.MaxNames {
		wanted := like(`[ab]c`)
		if i%2 == 1 {
			wanted = unlike(`[ab]c`)
		}
		up.Start, down.Start = i, api.MaxNames-1-i
		for _, w := range []string{"bcacb", "ac", "ca", mixed} {
			wantEach(t, up, w, wanted)
			wantEach(t, down, w, wanted)
		}
	}
}

func TestRings(t *testing.T) {
	wantTexts(t, `start S; S = "a" S | "";`, like(`a*`))
	wantTexts(t, `start S; S = S "a" | "b";`, like(`ba*`))
	wantTexts(t, `start S; S = S S | "a" | "b";`, like(`[ab]+`))
	wantTexts(t, `start S; S = S S S | "a";`, like(`a(aa)*`))
	wantTexts(t, `start S; S = S;`, never)
	wantTexts(t, `start S; S = S & "a" | S S;`, never)
	wantTexts(t, `start S; S = T; T = U; U = S | "a";`, like(`a`))
	wantTexts(t, `start S; S = "a" T | ""; T = "b" S;`, like(`(ab)*`))
	wantTexts(t, `start S; S = T S | "c"; T = S T | "";`, like(`c+`))
	wantTexts(t, `start S; S = T "a" & ~ "baa" | "b"; T = S;`, like(`b|ba`))
}

// TestRingsOfAllNames: a name has what the last one of a long row has, wherever
// its rule stands.
func TestRingsOfAllNames(t *testing.T) {
	for _, step := range []int{1, 5, api.MaxNames - 1} {
		g := named(api.MaxNames)
		for i := range api.MaxNames {
			g.Rules = append(g.Rules, rule(i, row(ref((i+step)%api.MaxNames))))
			if i == 20 {
				g.Rules = append(g.Rules, rule(i, row(ref(i), span('a', 'a'))), rule(i, row(span('b', 'b'))))
			}
		}
		for g.Start = range api.MaxNames {
			for _, w := range []string{"b" + strings.Repeat("a", api.MaxInput-1), "abaa", "baba"} {
				wantEach(t, g, w, like(`ba*`))
			}
		}
	}
}

// TestEmptyTexts: names that have the empty text, ahead of others, between them
// and behind them.
func TestEmptyTexts(t *testing.T) {
	wantTexts(t, `start S; S = "a" E "b"; E = "";`, like(`ab`))
	wantTexts(t, `start S; S = E "a" E E "b" E; E = "" | "c";`, like(`c?ac?c?bc?`))
	wantTexts(t, `start S; S = S E | "b"; E = "" | E E | "a";`, like(`ba*`))
	wantTexts(t, `start S; S = E S E | "b"; E = "" | "a";`, like(`a*ba*`))
	wantTexts(t, `start S; S = S S | "a" | "";`, like(`a*`))
	wantTexts(t, `start S; S = A B A B; A = B | "a"; B = A | "b" | "";`, like(`[ab]{0,4}`))
	// One that has it only as another one has it not.
	wantTexts(t, `start S; S = "a" N N "b"; N = ~ T & U; T = 'a'..'c' T | "c"; U = "" | "c" | "a";`, like(`aa?a?b`))
	// The empty text between two names of a ring, found later than they are.
	wantTexts(t, `start S; S = T E T; T = S | "c"; E = F; F = G; G = T "x" | "";`, like(`c(c)+`))
}

func TestRanges(t *testing.T) {
	wantTexts(t, `start S; S = 'b'..'c' 'a'..'b' S | 'a'..'a';`, like(`([bc][ab])*a`))
	wantTexts(t, `start S; S = T T; T = 'a'..'c' | "";`, like(`[abc]?[abc]?`))
	wantTexts(t, `start S; S = A & ~ B; A = 'a'..'c' A | ""; B = A 'a'..'b' 'b'..'c' A;`, func(s string) bool {
		return like(`[abc]*`)(s) && !like(`.*[ab][bc].*`)(s)
	})
}

// TestKnownLanguages: grammars whose meaning is known otherwise.
func TestKnownLanguages(t *testing.T) {
	wantTexts(t, `start S; S = A D & B E; A = "a" A | ""; D = "b" D "c" | ""; B = "a" B "b" | ""; E = "c" E | "";`, isThrice)
	wantTexts(t, `start S; S = C & D; C = X C X | "c"; X = "a" | "b";
		D = "a" A & "a" D | "b" B & "b" D | "c" E; A = X A X | "c" E "a"; B = X B X | "c" E "b"; E = X E | "";`, isTwice)
	wantTexts(t, `start S; S = ~ P; P = "a" P "a" | "b" P "b" | "c" P "c" | 'a'..'c' | "";`, func(s string) bool {
		return like(`.*[^abc].*`)(s) || !isMirrored(s)
	})
	g := samples.Read(`start S; S = A D & B E; A = "a" A | ""; D = "b" D "c" | ""; B = "a" B "b" | ""; E = "c" E | "";`)
	for n := range 11 {
		wantEach(t, g, strings.Repeat("a", n)+strings.Repeat("b", n)+strings.Repeat("c", n)+"c", isThrice)
	}
}

// isThrice: is it as many a's, b's, c's, in this row?
func isThrice(s string) bool {
	n := len(s) / 3
	return s == strings.Repeat("a", n)+strings.Repeat("b", n)+strings.Repeat("c", n)
}

// isTwice: is it the same a's and b's twice, with a c between?
func isTwice(s string) bool {
	n := len(s) / 2
	return len(s)%2 == 1 && s[n] == 'c' && s[:n] == s[n+1:] && like(`[ab]*`)(s[:n])
}

// isMirrored: is it the same from its end on?
func isMirrored(s string) bool {
	turned := []byte(s)
	slices.Reverse(turned)
	return s == string(turned)
}

// TestPowers: four names have as many bytes as 1, 2, 3 and 6 times the powers of
// four, though there is but one byte.
func TestPowers(t *testing.T) {
	g := samples.Read(`start A; A = A C & B B | "a"; B = A A & B F | "aa"; C = A B & F F | "aaa"; F = A B & C C;`)
	for name, first := range []int{1, 2, 3, 6} {
		g.Start = name
		wantEach(t, g, strings.Repeat("a", api.MaxInput), func(s string) bool {
			n := len(s)
			for n > first && n%4 == 0 {
				n /= 4
			}
			return n == first
		})
	}
}

// TestStartIsAsked: whichever name is the start, it is the one that is asked;
// what names are called counts for nothing.
func TestStartIsAsked(t *testing.T) {
	g := samples.Read(`start S; S = T "b"; T = "a" T | "";`)
	g.Names = []string{"z", "y"}
	wantEach(t, g, "aaab", like(`a*b`))
	g.Start = 1
	wantEach(t, g, "aaab", like(`a*`))
}
