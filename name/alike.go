package name

import (
	"bytes"
	"cmp"
	"slices"

	"charter/api"
)

const blank = ' '

// Plain is a plain text: P9.3.
func Plain(text []byte) []byte {
	var plain []byte
	for _, b := range text {
		if b != blank || len(plain) > 0 && plain[len(plain)-1] != blank {
			plain = append(plain, small(b))
		}
	}
	if len(plain) > 0 && plain[len(plain)-1] == blank {
		return plain[:len(plain)-1]
	}
	return plain
}

func small(b byte) byte {
	if 'A' <= b && b <= 'Z' {
		return b - 'A' + 'a'
	}
	return b
}

// Alike tells whether two names are alike: P9.3.
func Alike(a, b api.Name) bool { return slices.EqualFunc(a, b, stepsAlike) }

// Within tells whether one is within another one: P9.3.
func Within(a, b api.Name) bool { return len(a) >= len(b) && Alike(a[:len(b)], b) }

func stepsAlike(a, b []api.Attr) bool { return slices.EqualFunc(sensesOf(a), sensesOf(b), sameSense) }

// sense is what attributes that are alike have in common.
type sense struct {
	kind []uint32
	text []byte
}

// sensesOf are those of a step, each once. They are sorted, as holding each against each takes too long in a name that
// may not be, with steps of any length.
func sensesOf(step []api.Attr) []sense {
	var l []sense
	for _, a := range step {
		l = append(l, sense{a.Type, Plain(a.Text)})
	}
	slices.SortFunc(l, compareSenses)
	return slices.CompactFunc(l, sameSense)
}

func compareSenses(a, b sense) int {
	return cmp.Or(slices.Compare(a.kind, b.kind), bytes.Compare(a.text, b.text))
}

func sameSense(a, b sense) bool { return compareSenses(a, b) == 0 }
