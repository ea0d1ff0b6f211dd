package cert

import (
	"slices"

	"charter/api"
	"charter/name"
	"charter/nat"
	"charter/prim"
	"charter/rsa"
)

func sayMay(c api.Cert) bool {
	return serialMay(c.Serial) && len(c.Issuer) > 0 && name.Check(c.Issuer) == nil && name.Check(c.Subject) == nil &&
		spanMay(c.From, c.To) && rsa.Check(c.Key) == nil && depthMay(c.Authority, c.Depth) &&
		c.Uses >= 0 && c.Uses <= maxUses && namesMay(c.Permitted) && namesMay(c.Excluded) && policiesMay(c.Policies)
}

func serialMay(serial api.Nat) bool {
	body, err := prim.Big(serial)
	return err == nil && len(body) <= api.MaxSerial && nat.Cmp(serial, api.Nat{1}) >= 0
}

func spanMay(from, to api.Time) bool {
	first, err := prim.Count(from)
	if err != nil {
		return false
	}
	last, err := prim.Count(to)
	return err == nil && first <= last
}

func depthMay(authority bool, depth int) bool {
	return depth == anyDepth || authority && depth >= 0 && depth <= api.MaxDepth
}

func namesMay(l []api.Name) bool {
	return len(l) <= api.MaxNames && !slices.ContainsFunc(l, func(n api.Name) bool { return name.Check(n) != nil })
}

func policiesMay(l [][]uint32) bool {
	if len(l) > api.MaxPolicy {
		return false
	}
	for i, policy := range l {
		if _, err := prim.Oid(policy); err != nil {
			return false
		}
		if slices.ContainsFunc(l[:i], func(ahead []uint32) bool { return slices.Equal(ahead, policy) }) {
			return false
		}
	}
	return true
}
