package prim

import (
	"bytes"
	"math/bits"

	"charter/api"
	"charter/nat"
)

const (
	// Where it is 1 in the first byte, the number is below 0.
	signBit = 0x80
	maxInt  = 8
	// How many bytes the longest number has that is reckoned with.
	maxBig = 4 * api.MaxLimbs
)

// Int is a number's body: P8.1.
func Int(n int64) []byte {
	// All bits turned, a number below 0 needs as many as the one that it becomes; both need one more, for the sign.
	needed := bits.Len64(uint64(n^n>>63)) + 1
	body := make([]byte, (needed+7)/8)
	for i := range len(body) {
		body[len(body)-1-i] = byte(n >> (8 * i))
	}
	return body
}

// ReadInt reads it: P8.1.
func ReadInt(body []byte) (int64, error) {
	if !isNumber(body) {
		return 0, api.ErrForm
	}
	if len(body) > maxInt {
		return 0, api.ErrLong
	}
	n := int64(int8(body[0]))
	for _, b := range body[1:] {
		n = n<<8 | int64(b)
	}
	return n, nil
}

// Big is a long number's body: P8.2.
func Big(n api.Nat) ([]byte, error) {
	all, err := nat.Write(n, maxBig)
	if err != nil {
		return nil, err
	}
	digits := bytes.TrimLeft(all, "\x00")
	if len(digits) == 0 || belowZero(digits) {
		return append([]byte{0}, digits...), nil
	}
	return bytes.Clone(digits), nil
}

// ReadBig reads it: P8.2.
func ReadBig(body []byte) (api.Nat, error) {
	if !isNumber(body) || belowZero(body) {
		return nil, api.ErrForm
	}
	return nat.Read(body)
}

// isNumber tells whether a body's first byte is needed: neither of 00 nor of ff, if the next one has that sign, too.
func isNumber(body []byte) bool {
	if len(body) < 2 {
		return len(body) == 1
	}
	switch body[0] {
	case 0x00:
		return belowZero(body[1:])
	case 0xff:
		return !belowZero(body[1:])
	}
	return true
}

// belowZero tells whether bytes, one at least, are of a number below 0.
func belowZero(body []byte) bool { return body[0]&signBit != 0 }
