package rsa

import (
	"math/bits"

	"charter/api"
	"charter/nat"
)

const (
	limbBytes   = 4
	maxReckoned = limbBytes * api.MaxLimbs
	maxFactor   = 64
)

func publicMay(p api.Public) bool {
	size := sizeOf(p.N)
	return isOdd(p.N) && size >= api.MinKey && size <= api.MaxKey &&
		isOdd(p.E) && nat.Cmp(p.E, api.Nat{3}) >= 0 && nat.Cmp(p.E, p.N) < 0
}

func secretMay(s api.Secret) bool {
	return publicMay(api.Public{N: s.N, E: s.E}) && nat.Cmp(s.D, api.Nat{1}) >= 0 && nat.Cmp(s.D, s.N) < 0
}

// factorMay tells whether a modulus is made of this; whether it is a prime isn't asked.
func factorMay(p api.Nat) bool {
	return nat.Cmp(p, api.Nat{3}) >= 0 && sizeOf(p) <= maxFactor
}

// paired is what comes of two factors, whether it may be or not.
func paired(p, q, e api.Nat) (api.Secret, error) {
	n, err := nat.Mul(p, q)
	if err != nil {
		return api.Secret{}, err
	}
	round, err := roundOf(p, q)
	if err != nil {
		return api.Secret{}, err
	}
	d, err := nat.Inv(e, round)
	if err != nil {
		return api.Secret{}, err
	}
	// A sum with 0 is told in new memory, without limbs of 0 at its end, as e itself needn't be.
	own, err := nat.Add(e, nil)
	if err != nil {
		return api.Secret{}, err
	}
	return api.Secret{N: n, E: own, D: d}, nil
}

// roundOf is (p - 1)(q - 1): after so many times, powers modulo p times q come round, if both are primes.
func roundOf(p, q api.Nat) (api.Nat, error) {
	p, err := nat.Sub(p, api.Nat{1})
	if err != nil {
		return nil, err
	}
	q, err = nat.Sub(q, api.Nat{1})
	if err != nil {
		return nil, err
	}
	return nat.Mul(p, q)
}

// sizeOf is how many bytes a number has, of whatever length.
func sizeOf(a api.Nat) int {
	for len(a) > 0 && a[len(a)-1] == 0 {
		a = a[:len(a)-1]
	}
	if len(a) == 0 {
		return 0
	}
	return limbBytes*(len(a)-1) + (bits.Len32(a[len(a)-1])+7)/8
}

func isOdd(a api.Nat) bool { return len(a) > 0 && a[0]&1 == 1 }
