package wire

import (
	"errors"
	"testing"

	"capstan/api"
)

// 3.2: an error tells what it is, and its place, however often it is wrapped
func TestFaultOf(t *testing.T) {
	for _, c := range []struct {
		err  error
		want api.Fault
	}{
		{refusal(api.ErrLong), api.Fault{Code: api.ErrLong}},
		{placed{7, refusal(api.ErrEnd)}, api.Fault{At: 7, Code: api.ErrEnd}},
		{errors.Join(errors.New("other"), placed{9, refusal(api.ErrMore)}), api.Fault{At: 9, Code: api.ErrMore}},
	} {
		if got := faultOf(c.err); got != c.want {
			t.Errorf("%v: %v, want %v", c.err, got, c.want)
		}
	}
}

func TestErrorTexts(t *testing.T) {
	if got := (placed{7, refusal(api.ErrEnd)}).Error(); got != "at 7: refused with error 30" {
		t.Error(got)
	}
}
