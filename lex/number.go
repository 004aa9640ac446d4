package lex

import (
	"math"
	"strings"

	"capstan/api"
	"capstan/num"
)

// greatest is how much a number without a type or a base may be: it is one more than DINT has, since a - may stand ahead.
const greatest = math.MaxInt32 + 1

// beyond is more than any number may be: a number does not grow further, so that digits without end do no harm.
const beyond = math.MaxUint32 + 1

type base struct {
	name string
	size int64
}

var bases = [...]base{{"2#", 2}, {"8#", 8}, {"16#", 16}}

type typeName struct {
	name string
	t    int
}

var typeNames = [...]typeName{
	{"BOOL", api.TBool}, {"INT", api.TInt}, {"DINT", api.TDint}, {"T", api.TTime}, {"TIME", api.TTime},
}

type unit struct {
	name   string
	millis int64
}

// units are in the order in which a time's parts must stand; that ms is behind m lets unitOf find the longer one.
var units = [...]unit{{"D", 86400000}, {"H", 3600000}, {"M", 60000}, {"S", 1000}, {"MS", 1}}

// untyped answers the number, based or not, with which s begins, its length, and whether it is one.
func untyped(s string) (api.Token, int, bool) {
	for _, b := range bases {
		if rest, is := strings.CutPrefix(s, b.name); is {
			n, length, ok := number(rest, b.size)
			return api.Token{Kind: api.KNum, N: signed(n)}, len(b.name) + length, ok && n <= math.MaxUint32
		}
	}
	n, length, ok := number(s, 10)
	return api.Token{Kind: api.KNum, N: n}, length, ok && n <= greatest
}

// signed answers 32 bits as the number that they are where the first one counts below 0.
func signed(n int64) int64 {
	if n > math.MaxInt32 {
		return n - beyond
	}
	return n
}

// typed answers the number or time of the type with that name (in capitals) whose value stands at the front of s, how many bytes the value has, and whether it is one.
func typed(name, s string) (api.Token, int, bool) {
	for _, y := range typeNames {
		if y.name == name {
			read := value
			if y.t == api.TTime {
				read = timeValue
			}
			n, length, ok := read(s)
			return api.Token{Kind: api.KNum, N: n, Type: y.t}, length, ok && num.Fits(y.t, n)
		}
	}
	return api.Token{}, 0, false
}

// value answers the number, or - and one, at the front of s.
func value(s string) (int64, int, bool) {
	if rest, minus := strings.CutPrefix(s, "-"); minus {
		n, length, ok := number(rest, 10)
		return -n, len("-") + length, ok
	}
	return number(s, 10)
}

// timeValue answers the milliseconds of the parts at the front of s.
func timeValue(s string) (int64, int, bool) {
	sum, at, next := int64(0), 0, 0
	for at < len(s) && isDigit(s[at]) {
		n, length := digits(s[at:], 10)
		if strings.IndexByte(s[at:at+length], '_') >= 0 {
			return 0, 0, false
		}
		at += length
		u := unitOf(s[at:])
		if u < next {
			return 0, 0, false
		}
		sum += n * units[u].millis
		at += len(units[u].name)
		next = u + 1
	}
	return sum, at, at > 0 && !goesOn(s[at:])
}

// unitOf answers which of the units s begins with, the longest one, or -1.
func unitOf(s string) int {
	found := -1
	for i, u := range units {
		if len(s) >= len(u.name) && Upper(s[:len(u.name)]) == u.name {
			found = i
		}
	}
	return found
}

// number answers the number at the front of s, how many bytes it has, and whether it is one, whole.
func number(s string, base int64) (int64, int, bool) {
	n, length := digits(s, base)
	return n, length, length > 0 && !goesOn(s[length:])
}

// digits answers the number that the digits of a base at the front of s make, at most beyond, and how many bytes they have, each _ between two of them too.
func digits(s string, base int64) (int64, int) {
	n, i := int64(0), 0
	for i < len(s) {
		if d := digitOf(s[i], base); d >= 0 {
			n = min(n*base+d, beyond)
		} else if i == 0 || s[i] != '_' || i+1 == len(s) || digitOf(s[i+1], base) < 0 {
			break
		}
		i++
	}
	return n, i
}

// digitOf answers which digit of a base c is, or -1.
func digitOf(c byte, base int64) int64 {
	d := base
	switch {
	case isDigit(c):
		d = int64(c - '0')
	case 'a' <= c && c <= 'f':
		d = int64(c-'a') + 10
	case 'A' <= c && c <= 'F':
		d = int64(c-'A') + 10
	}
	if d >= base {
		return -1
	}
	return d
}

// goesOn answers whether s, which stands behind a number, begins with what is part of it, and so makes it none.
func goesOn(s string) bool {
	return s != "" && (isDigit(s[0]) || s[0] == '_')
}
