package nat

import "charter/api"

// ring is where numbers are multiplied modulo one of which headroom is 0; each has as many limbs as that.
type ring struct{ modulus, wide, times api.Nat }

func ringOf(modulus api.Nat) ring {
	n := len(modulus)
	return ring{modulus: modulus, wide: make(api.Nat, 2*n), times: make(api.Nat, n)}
}

// take is a number below the modulus, with limbs of 0 at its end.
func (r ring) take(a api.Nat) api.Nat {
	out := make(api.Nat, len(r.modulus))
	copy(out, a)
	return out
}

// multiply makes a what is left of a times b.
func (r ring) multiply(a, b api.Nat) {
	multiply(r.wide, a, b)
	reduce(r.wide, r.modulus, r.times)
	copy(a, r.wide)
}

// power is what is left of a, e times multiplied, by m, which isn't 0.
func power(a, e, m api.Nat) api.Nat {
	// It is reckoned modulo m shifted up, a multiple of m, so that nothing is shifted on the way.
	r := ringOf(counted(shiftUp(m, headroom(m))))
	_, left := divide(a, m)
	base, out := r.take(left), r.take(api.Nat{1})
	n := bitsOf(e)
	for i := range n {
		r.multiply(out, out)
		if hasBit(e, n-1-i) {
			r.multiply(out, base)
		}
	}
	_, left = divide(counted(out), m)
	return left
}

func hasBit(a api.Nat, at int) bool { return a[at/limbBits]>>(at%limbBits)&1 == 1 }
