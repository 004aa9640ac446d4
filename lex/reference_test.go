package lex_test

import (
	"math/big"
	"regexp"
	"strings"

	"capstan/api"
)

// The chapter's words, as regular expressions: what the scanner is held against. Letters are written out in both cases, since (?i) would take letters beyond a to z for some of them.
var (
	refGap   = longest(`[ \t\n\r]|\(\*(?:[^*]|\*+[^*)])*\*+\)|//[^\n]*|\{[^}]*\}`)
	refOpen  = longest(`\(\*|\{`)
	refWord  = longest(`[A-Za-z_][A-Za-z_0-9]*#?`)
	refSign  = longest(`:=|<=|>=|<>|\*\*|\.\.|[()\[\],;:.+*/=<>&-]`)
	refPlain = longest(`[0-9]+(_[0-9]+)*`)
	refMinus = longest(`-?[0-9]+(_[0-9]+)*`)
	refParts = longest(`([0-9]+[dD])?([0-9]+[hH])?([0-9]+[mM])?([0-9]+[sS])?([0-9]+[mM][sS])?`)
)

func longest(pattern string) *regexp.Regexp {
	r := regexp.MustCompile(`\A(?:` + pattern + `)`)
	r.Longest()
	return r
}

// refBases are the bases' digits.
func refBases() []struct {
	name string
	base int
	form *regexp.Regexp
} {
	return []struct {
		name string
		base int
		form *regexp.Regexp
	}{
		{"2#", 2, longest(`[01]+(_[01]+)*`)},
		{"8#", 8, longest(`[0-7]+(_[0-7]+)*`)},
		{"16#", 16, longest(`[0-9a-fA-F]+(_[0-9a-fA-F]+)*`)},
	}
}

var refBaseForms = refBases()

func refTokens(s string) ([]api.Token, api.Fault) {
	if len(s) > 65536 {
		return nil, api.Fault{Code: api.ErrLong}
	}
	var l []api.Token
	for at := 0; ; {
		for {
			g := refGap.FindString(s[at:])
			if g == "" {
				break
			}
			at += len(g)
		}
		rest := s[at:]
		if refOpen.MatchString(rest) {
			return nil, api.Fault{At: at, Code: api.ErrToken}
		}
		if len(l) == 4096 {
			return nil, api.Fault{At: at, Code: api.ErrLong}
		}
		if rest == "" {
			return append(l, api.Token{Kind: api.KEnd, At: at}), api.Fault{}
		}
		t, length := refToken(rest)
		if length == 0 {
			return nil, api.Fault{At: at, Code: api.ErrToken}
		}
		t.At = at
		l = append(l, t)
		at += length
	}
}

// refToken answers the token at the front of s, and its length, which is 0 where there is none.
func refToken(s string) (api.Token, int) {
	if g := refSign.FindString(s); g != "" {
		return api.Token{Kind: api.KSign, S: g}, len(g)
	}
	if w := refWord.FindString(s); w != "" {
		if strings.HasSuffix(w, "#") {
			return refTyped(asciiUpper(w), s, len(w))
		}
		if len(w) > 24 {
			return api.Token{}, 0
		}
		return api.Token{Kind: api.KWord, S: asciiUpper(w)}, len(w)
	}
	for _, b := range refBaseForms {
		if strings.HasPrefix(s, b.name) {
			return refNumber(s, len(b.name), b.base, b.form)
		}
	}
	return refNumber(s, 0, 10, refPlain)
}

func refNumber(s string, skip, base int, form *regexp.Regexp) (api.Token, int) {
	d := form.FindString(s[skip:])
	most, less := "2147483648", int64(0)
	if base != 10 {
		most, less = "4294967295", 4294967296
	}
	if d == "" || refSpoilt(s[skip+len(d):]) || bigOf(d, base).Cmp(bigOf(most, 10)) > 0 {
		return api.Token{}, 0
	}
	n := bigOf(d, base).Int64()
	if n > 2147483647 {
		n -= less
	}
	return api.Token{Kind: api.KNum, N: n}, skip + len(d)
}

func refTyped(name, s string, skip int) (api.Token, int) {
	if name == "T#" || name == "TIME#" {
		return refTime(s, skip)
	}
	least, most, of := "", "", 0
	switch name {
	case "BOOL#":
		least, most, of = "0", "1", api.TBool
	case "INT#":
		least, most, of = "-32768", "32767", api.TInt
	case "DINT#":
		least, most, of = "-2147483648", "2147483647", api.TDint
	default:
		return api.Token{}, 0
	}
	d := refMinus.FindString(s[skip:])
	if d == "" || refSpoilt(s[skip+len(d):]) {
		return api.Token{}, 0
	}
	n := bigOf(d, 10)
	if n.Cmp(bigOf(least, 10)) < 0 || n.Cmp(bigOf(most, 10)) > 0 {
		return api.Token{}, 0
	}
	return api.Token{Kind: api.KNum, N: n.Int64(), Type: of}, skip + len(d)
}

func refTime(s string, skip int) (api.Token, int) {
	parts := refParts.FindStringSubmatch(s[skip:])
	if parts[0] == "" || refSpoilt(s[skip+len(parts[0]):]) {
		return api.Token{}, 0
	}
	sum := new(big.Int)
	for i, millis := range []int64{86400000, 3600000, 60000, 1000, 1} {
		if parts[i+1] != "" {
			n := bigOf(strings.TrimRight(parts[i+1], "dDhHmMsS"), 10)
			sum.Add(sum, n.Mul(n, big.NewInt(millis)))
		}
	}
	if sum.Cmp(big.NewInt(2147483647)) > 0 {
		return api.Token{}, 0
	}
	return api.Token{Kind: api.KNum, N: sum.Int64(), Type: api.TTime}, skip + len(parts[0])
}

// refSpoilt: a digit, or a _, behind a number makes it none.
func refSpoilt(behind string) bool {
	return behind != "" && strings.Contains("0123456789_", behind[:1])
}

func bigOf(digits string, base int) *big.Int {
	n, ok := new(big.Int).SetString(strings.ReplaceAll(digits, "_", ""), base)
	if !ok {
		panic("no number: " + digits)
	}
	return n
}

func asciiUpper(s string) string {
	return turned(s, 'a', 'z', 'A')
}

func asciiLower(s string) string {
	return turned(s, 'A', 'Z', 'a')
}

// turned answers s with the letters from first to last in the other case. It goes byte by byte, since bytes that are no runes must stay.
func turned(s string, first, last, other byte) string {
	var b strings.Builder
	for i := range len(s) {
		c := s[i]
		if first <= c && c <= last {
			c += other - first
		}
		b.WriteByte(c)
	}
	return b.String()
}
