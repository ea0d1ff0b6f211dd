package cert

import (
	"math/bits"
	"slices"

	"charter/api"
	"charter/name"
	"charter/prim"
	"charter/tlv"
)

// maker makes the elements of a certificate. Once something was amiss, that stays so, and what is made is none.
type maker struct{ amiss error }

func (m *maker) note(err error) {
	if m.amiss == nil {
		m.amiss = err
	}
}

// told is what was made, if nothing was amiss.
func (m *maker) told(b []byte) ([]byte, error) {
	if m.amiss != nil {
		return nil, m.amiss
	}
	return b, nil
}

// element is one of such a body as its parts make, one behind the other. (The writer of layer 7 makes wholes of parts
// alone, and here much is written already.)
func (m *maker) element(mark byte, parts ...[]byte) []byte {
	size := 0
	for _, part := range parts {
		size += len(part)
	}
	all, err := tlv.Head(mark, size)
	if err != nil {
		m.note(err)
		return nil
	}
	for _, part := range parts {
		all = append(all, part...)
	}
	return all
}

func (m *maker) number(n api.Nat) []byte {
	body, err := prim.Big(n)
	m.note(err)
	return m.element(markNumber, body)
}

func (m *maker) short(n int) []byte { return m.element(markNumber, prim.Int(int64(n))) }

func (m *maker) bits(b api.Bits) []byte {
	body, err := prim.Bits(b)
	m.note(err)
	return m.element(markBits, body)
}

func (m *maker) time(t api.Time) []byte {
	mark, body, err := prim.Time(t)
	m.note(err)
	return m.element(mark, body)
}

func (m *maker) name(n api.Name) []byte {
	b, err := name.Write(n)
	m.note(err)
	return b
}

// kind tells of what kind a sign or a key is.
func (m *maker) kind(oid string) []byte {
	return m.element(markList, m.element(markOid, []byte(oid)), m.element(markNull))
}

func (m *maker) body(c api.Cert) []byte {
	return m.element(markList,
		m.element(markVersion, m.short(version)),
		m.number(c.Serial),
		m.kind(oidSign),
		m.name(c.Issuer),
		m.element(markList, m.time(c.From), m.time(c.To)),
		m.name(c.Subject),
		m.element(markList, m.kind(oidKey), m.bits(api.Bits{B: m.key(c.Key)})),
		m.extensions(c))
}

func (m *maker) key(k api.Public) []byte { return m.element(markList, m.number(k.N), m.number(k.E)) }

func (m *maker) extensions(c api.Cert) []byte {
	all := slices.Concat(m.authority(c), m.uses(c.Uses), m.names(c), m.policies(c.Policies))
	if len(all) == 0 {
		return nil
	}
	return m.element(markExtensions, m.element(markList, all))
}

func (m *maker) extension(oid string, grave bool, said []byte) []byte {
	var mark []byte
	if grave {
		mark = m.yes()
	}
	return m.element(markList, m.element(markOid, []byte(oid)), mark, m.element(markBytes, said))
}

func (m *maker) yes() []byte { return m.element(markBool, []byte{0xff}) }

func (m *maker) authority(c api.Cert) []byte {
	if !c.Authority {
		return nil
	}
	var depth []byte
	if c.Depth != anyDepth {
		depth = m.short(c.Depth)
	}
	return m.extension(oidAuthority, true, m.element(markList, m.yes(), depth))
}

func (m *maker) uses(uses int) []byte {
	if uses == 0 {
		return nil
	}
	return m.extension(oidUses, true, m.bits(bitsOf(uint16(uses))))
}

// bitsOf are as few bits as have all of Uses that are 1; the lowest one stands first.
func bitsOf(uses uint16) api.Bits {
	turned := bits.Reverse16(uses)
	count := bits.Len16(uses)
	size := (count + 7) / 8
	return api.Bits{B: []byte{byte(turned >> 8), byte(turned)}[:size], Unused: 8*size - count}
}

func (m *maker) names(c api.Cert) []byte {
	said := slices.Concat(m.within(markPermitted, c.Permitted), m.within(markExcluded, c.Excluded))
	if len(said) == 0 {
		return nil
	}
	return m.extension(oidNames, true, m.element(markList, said))
}

// within tells within which names others are permitted, or excluded.
func (m *maker) within(mark byte, l []api.Name) []byte {
	if len(l) == 0 {
		return nil
	}
	var all []byte
	for _, n := range l {
		all = append(all, m.element(markList, m.element(markDirectory, m.name(n)))...)
	}
	return m.element(mark, all)
}

func (m *maker) policies(l [][]uint32) []byte {
	if len(l) == 0 {
		return nil
	}
	var all []byte
	for _, policy := range l {
		oid, err := prim.Oid(policy)
		m.note(err)
		all = append(all, m.element(markList, m.element(markOid, oid))...)
	}
	return m.extension(oidPolicies, false, m.element(markList, all))
}
