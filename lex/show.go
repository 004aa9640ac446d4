package lex

import (
	"strconv"
	"strings"

	"capstan/api"
)

// Show answers a text that has just the tokens of l, but for their places.
func Show(l []api.Token) (string, api.Errno) {
	last := len(l) - 1
	if last < 0 {
		return "", api.ErrToken
	}
	for i, t := range l {
		if (t.Kind == api.KEnd) != (i == last) || !couldCome(t) {
			return "", api.ErrToken
		}
	}
	var b strings.Builder
	for i, t := range l[:last] {
		if i > 0 {
			b.WriteByte(' ')
		}
		b.WriteString(shown(t))
		if b.Len() > api.MaxBytes {
			return "", api.ErrLong
		}
	}
	return b.String(), api.OK
}

// couldCome answers whether t could come from a text. Each token that could is read of what is shown of it, so reading that tells.
func couldCome(t api.Token) bool {
	s := shown(t)
	r, length, ok := token(s)
	r.At = t.At
	return ok && length == len(s) && r == t
}

func shown(t api.Token) string {
	switch {
	case t.Kind != api.KNum:
		return t.S
	case t.Type == 0 && t.N < 0:
		return "16#" + Upper(strconv.FormatInt(t.N+beyond, 16))
	case t.Type == 0:
		return strconv.FormatInt(t.N, 10)
	case t.Type == api.TTime:
		return "T#" + strconv.FormatInt(t.N, 10) + "ms"
	}
	for _, y := range typeNames {
		if y.t == t.Type {
			return y.name + "#" + strconv.FormatInt(t.N, 10)
		}
	}
	return ""
}
