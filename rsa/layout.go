package rsa

import (
	"bytes"
	"slices"

	"charter/api"
	"charter/sha"
)

const (
	// What stands ahead of a digest tells in DER that SHA-256 made it.
	digestAhead = "\x30\x31\x30\x0d\x06\x09\x60\x86\x48\x01\x65\x03\x04\x02\x01\x05\x00\x04\x20"

	kindSigned = 1
	kindHidden = 2
	// What is neither filling nor text: 00 and the kind ahead, 00 between.
	frame      = 3
	minFilling = 8
)

// laidToSign needs a size of MinKey at least, which leaves eight bytes to be filled.
func laidToSign(size int, b []byte) []byte {
	text := slices.Concat([]byte(digestAhead), sha.Sum(b))
	return laidOut(kindSigned, bytes.Repeat([]byte{0xff}, size-frame-len(text)), text)
}

func laidToHide(fill, text []byte) []byte { return laidOut(kindHidden, fill, text) }

func laidOut(kind byte, filling, text []byte) []byte {
	return slices.Concat([]byte{0, kind}, filling, []byte{0}, text)
}

// textOf is the text of what was laid out to be hidden.
func textOf(laid []byte) ([]byte, error) {
	rest, found := bytes.CutPrefix(laid, []byte{0, kindHidden})
	if !found {
		return nil, api.ErrPad
	}
	filling := bytes.IndexByte(rest, 0)
	if filling < minFilling {
		return nil, api.ErrPad
	}
	return rest[filling+1:], nil
}
