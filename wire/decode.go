package wire

import (
	"strings"

	"capstan/api"
)

// Decode answers the list whose bytes are b, or what is wrong with them, and where.
func Decode(b string) ([]api.Item, api.Fault) {
	l, err := readList(b)
	if err != nil {
		return nil, faultOf(err)
	}
	return l, api.Fault{}
}

func readList(b string) ([]api.Item, error) {
	count, err := readCount(b)
	if err != nil {
		return nil, err
	}
	l := make([]api.Item, 0, count)
	at := pairBytes
	for range count {
		item, err := readItem(b[at:])
		if err != nil {
			return nil, placed{at, err}
		}
		l = append(l, item)
		at += itemBytes(item)
	}
	if at < len(b) {
		return nil, placed{at, refusal(api.ErrMore)}
	}
	return l, nil
}

// readCount answers how many items the list with the bytes b tells to have.
func readCount(b string) (int, error) {
	if len(b) > api.MaxBytes {
		return 0, refusal(api.ErrLong)
	}
	if len(b) < pairBytes {
		return 0, refusal(api.ErrEnd)
	}
	count := readPair(b)
	if count > maxItems {
		return 0, refusal(api.ErrLong)
	}
	return count, nil
}

// readItem answers the item with which b begins. It does not know where b stands: who calls it tells the place.
func readItem(b string) (api.Item, error) {
	if b == "" {
		return api.Item{}, refusal(api.ErrEnd)
	}
	switch b[0] {
	case numberMark:
		return readNumberItem(b)
	case textMark:
		return readTextItem(b)
	}
	return api.Item{}, refusal(api.ErrForm)
}

func readNumberItem(b string) (api.Item, error) {
	if len(b) < numberItemBytes {
		return api.Item{}, refusal(api.ErrEnd)
	}
	n := uint64(0)
	for i := 1; i < numberItemBytes; i++ {
		n = n<<8 | uint64(b[i])
	}
	return api.Item{N: int64(n)}, nil
}

func readTextItem(b string) (api.Item, error) {
	if len(b) < textHeadBytes {
		return api.Item{}, refusal(api.ErrEnd)
	}
	end := textHeadBytes + readPair(b[1:])
	if len(b) < end {
		return api.Item{}, refusal(api.ErrEnd)
	}
	// A copy, so that the answer does not hold on to the memory of all bytes.
	return api.Item{Text: true, S: strings.Clone(b[textHeadBytes:end])}, nil
}

func readPair(b string) int {
	return int(b[0])<<8 | int(b[1])
}
