package nat

import (
	"math/bits"

	"charter/api"
)

// What follows is handed numbers whose limbs all count, if not said otherwise, and tells such.

func sum(a, b api.Nat) api.Nat {
	if len(a) < len(b) {
		a, b = b, a
	}
	out := make(api.Nat, len(a)+1)
	copy(out, a)
	addTo(out, b)
	return counted(out)
}

// addTo adds b to a, which has at least as many limbs; what goes beyond a's limbs is lost.
func addTo(a, b api.Nat) {
	var carry uint64
	for i := range len(a) {
		t := uint64(a[i]) + carry
		if i < len(b) {
			t += uint64(b[i])
		}
		a[i] = uint32(t)
		carry = t >> limbBits
	}
}

// difference is a less b, which isn't above a.
func difference(a, b api.Nat) api.Nat {
	out := make(api.Nat, len(a))
	copy(out, a)
	takeFrom(out, b, 1)
	return counted(out)
}

// takeFrom takes b so many times from a, which has at least as many limbs, and tells whether that went below 0.
func takeFrom(a, b api.Nat, times uint32) bool {
	low, high := a[:len(b)], a[len(b):]
	var owed int64
	for i := range len(low) {
		p := uint64(times) * uint64(b[i])
		t := int64(low[i]) - int64(uint32(p)) + owed
		low[i] = uint32(t)
		owed = t>>limbBits - int64(p>>limbBits)
	}
	for i := range len(high) {
		t := int64(high[i]) + owed
		high[i] = uint32(t)
		owed = t >> limbBits
	}
	return owed < 0
}

func product(a, b api.Nat) api.Nat {
	out := make(api.Nat, len(a)+len(b))
	multiply(out, a, b)
	return counted(out)
}

// multiply writes a times b to out, which has as many limbs as both.
func multiply(out, a, b api.Nat) {
	clear(out)
	for i := range len(a) {
		row := out[i:][:len(b)]
		times := uint64(a[i])
		var carry uint64
		for j := range len(b) {
			t := times*uint64(b[j]) + uint64(row[j]) + carry
			row[j] = uint32(t)
			carry = t >> limbBits
		}
		out[i+len(b)] = uint32(carry)
	}
}

// divide tells how often b, which isn't 0, is in a, and what is left.
func divide(a, b api.Nat) (api.Nat, api.Nat) {
	by := headroom(b)
	left, parts := shiftUp(a, by), counted(shiftUp(b, by))
	times := make(api.Nat, max(0, len(left)-len(parts)))
	reduce(left, parts, times)
	return counted(times), shiftDown(left, by)
}

// headroom is by how many bits a number is shifted up, so that it has two limbs at least and begins with a bit of 1.
func headroom(b api.Nat) int {
	by := bits.LeadingZeros32(b[len(b)-1])
	if len(b) == 1 {
		by += limbBits
	}
	return by
}

// shiftUp has a limb at the end into which less than a whole one was shifted.
func shiftUp(a api.Nat, by int) api.Nat {
	limbs, within := by/limbBits, by%limbBits
	out := make(api.Nat, len(a)+limbs+1)
	var carry uint64
	for i := range len(a) {
		t := uint64(a[i])<<within | carry
		out[limbs+i] = uint32(t)
		carry = t >> limbBits
	}
	out[limbs+len(a)] = uint32(carry)
	return out
}

// shiftDown takes limbs of 0 at the end, too.
func shiftDown(a api.Nat, by int) api.Nat {
	limbs, within := by/limbBits, by%limbBits
	out := make(api.Nat, max(0, len(a)-limbs))
	for i := range len(out) {
		t := uint64(a[limbs+i])
		if limbs+i+1 < len(a) {
			t |= uint64(a[limbs+i+1]) << limbBits
		}
		out[i] = uint32(t >> within)
	}
	return counted(out)
}

// reduce takes b from a as often as it goes, and writes to times how often; what is left stays in a's lowest limbs.
// Of b headroom is 0, and a's highest limbs, as many as b has, are below b.
func reduce(a, b, times api.Nat) {
	n := len(b)
	for i := range len(a) - n {
		at := len(a) - n - 1 - i
		part := a[at : at+n+1]
		t := guess(part, b)
		if takeFrom(part, b, t) {
			t--
			addTo(part, b)
		}
		times[at] = t
	}
}

// guess tells how often b is in a, which has one limb more, or one above that (Knuth, volume 2, 4.3.1, algorithm D).
func guess(a, b api.Nat) uint32 {
	n := len(b)
	high, next := uint64(b[n-1]), uint64(b[n-2])
	ahead := uint64(a[n])<<limbBits | uint64(a[n-1])
	t, left := ahead/high, ahead%high
	for t>>limbBits != 0 || t*next > left<<limbBits|uint64(a[n-2]) {
		t--
		left += high
		if left>>limbBits != 0 {
			break
		}
	}
	return uint32(t)
}

// invert tells what makes 1 of a modulo m, which is 2 at least, if there is one.
func invert(a, m api.Nat) (api.Nat, bool) {
	last, next := m, a
	// How often a is in last and in next, but for multiples of m: the one is above 0, the other below, by turns.
	ofLast, ofNext := api.Nat{}, api.Nat{1}
	lastBelow := true
	for len(next) > 0 {
		times, left := divide(last, next)
		last, next = next, left
		ofLast, ofNext = ofNext, sum(ofLast, product(times, ofNext))
		lastBelow = !lastBelow
	}
	if Cmp(last, api.Nat{1}) != 0 {
		return nil, false
	}
	if lastBelow {
		ofLast = difference(m, ofLast)
	}
	return ofLast, true
}
