package prim

import (
	"bytes"
	"math"
	"math/bits"

	"charter/api"
)

const (
	// An identifier's first two numbers stand together, the first one times this.
	firstTimes = 40
	groupBits  = 7
	// It is 1 in all groups of a number but for the last one.
	goesOnBit = 0x80
	maxGroups = 5
	maxOid    = (api.MaxArcs - 1) * maxGroups
)

// Oid is an identifier's body: P8.3.
func Oid(l []uint32) ([]byte, error) {
	if !isOid(l) {
		return nil, api.ErrArg
	}
	body := withGroups(nil, firstTimes*l[0]+l[1])
	for _, n := range l[2:] {
		body = withGroups(body, n)
	}
	return body, nil
}

// ReadOid reads it: P8.3.
func ReadOid(body []byte) ([]uint32, error) {
	if len(body) > maxOid {
		return nil, api.ErrForm
	}
	l := numbersOf(body)
	// Groups that aren't needed, a number that is too great, and one that is cut off, aren't what Oid makes.
	again, err := Oid(l)
	if err != nil || !bytes.Equal(again, body) {
		return nil, api.ErrForm
	}
	return l, nil
}

func isOid(l []uint32) bool {
	if len(l) < 2 || len(l) > api.MaxArcs || l[0] > 2 {
		return false
	}
	if l[0] < 2 {
		return l[1] < firstTimes
	}
	return l[1] <= math.MaxUint32-2*firstTimes
}

// withGroups is a body with a number's groups behind it.
func withGroups(body []byte, n uint32) []byte {
	ahead := (max(bits.Len32(n), 1) - 1) / groupBits
	for i := range ahead {
		body = append(body, byte(n>>(groupBits*(ahead-i)))|goesOnBit)
	}
	return append(body, byte(n)&^goesOnBit)
}

// numbersOf is what a body's groups tell, some identifier or not; what is above 32 bits is lost.
func numbersOf(body []byte) []uint32 {
	var l []uint32
	var n uint32
	for _, b := range body {
		n = n<<groupBits | uint32(b&^goesOnBit)
		if b&goesOnBit != 0 {
			continue
		}
		if len(l) == 0 {
			first := min(n/firstTimes, 2)
			l = append(l, first)
			n -= firstTimes * first
		}
		l = append(l, n)
		n = 0
	}
	return l
}
