package cert

import (
	"math/bits"

	"charter/api"
	"charter/name"
	"charter/prim"
	"charter/tlv"
)

// reader is one of layer 7 that reads what a certificate is made of, too. Once something was amiss, that stays so, and
// what is read means nothing.
type reader struct {
	*tlv.Reader
	amiss bool
}

func newReader(b []byte) *reader { return &reader{Reader: tlv.NewReader(b)} }

func (r *reader) note(err error) {
	if err != nil {
		r.amiss = true
	}
}

func (r *reader) enter(mark byte) { r.note(r.Enter(mark)) }

func (r *reader) leave() { r.note(r.Leave()) }

func (r *reader) end() { r.note(r.End()) }

// more tells whether something is to be read here; not, where something was amiss, so that who goes on until nothing
// is there comes to an end.
func (r *reader) more() bool {
	_, ok := r.Next()
	return ok && !r.amiss
}

// at tells whether an element of that mark comes next.
func (r *reader) at(mark byte) bool {
	next, ok := r.Next()
	return ok && next == mark
}

func (r *reader) take(mark byte) []byte {
	body, err := r.Take(mark)
	r.note(err)
	return body
}

// whole is all of an element of that mark, whatever its body is.
func (r *reader) whole(mark byte) []byte {
	if !r.at(mark) {
		r.amiss = true
		return nil
	}
	b, err := r.Whole()
	r.note(err)
	return b
}

func (r *reader) number() api.Nat {
	n, err := prim.ReadBig(r.take(markNumber))
	r.note(err)
	return n
}

func (r *reader) short() int {
	n, err := prim.ReadInt(r.take(markNumber))
	r.note(err)
	return int(n)
}

func (r *reader) bits() api.Bits {
	b, err := prim.ReadBits(r.take(markBits))
	r.note(err)
	return b
}

func (r *reader) oid() []uint32 {
	l, err := prim.ReadOid(r.take(markOid))
	r.note(err)
	return l
}

func (r *reader) time() api.Time {
	mark, _ := r.Next()
	t, err := prim.ReadTime(mark, r.take(mark))
	r.note(err)
	return t
}

func (r *reader) name() api.Name {
	n, err := name.Read(r.whole(markList))
	r.note(err)
	return n
}

// kind passes over what tells of what kind a sign or a key is, which has to be that.
func (r *reader) kind(oid string) {
	r.enter(markList)
	if string(r.take(markOid)) != oid || len(r.take(markNull)) > 0 {
		r.amiss = true
	}
	r.leave()
}

// inside reads the elements of bytes that are no whole's body, by the same reader.
func (r *reader) inside(b []byte, read func()) {
	outside := r.Reader
	r.Reader = tlv.NewReader(b)
	read()
	r.end()
	r.Reader = outside
}

func (r *reader) body() api.Cert {
	c := api.Cert{Depth: anyDepth}
	r.enter(markList)
	r.whole(markVersion)
	c.Serial = r.number()
	r.kind(oidSign)
	c.Issuer = r.name()
	r.enter(markList)
	c.From = r.time()
	c.To = r.time()
	r.leave()
	c.Subject = r.name()
	c.Key = r.key()
	if r.more() {
		r.extensions(&c)
	}
	r.leave()
	r.end()
	return c
}

func (r *reader) key() api.Public {
	var k api.Public
	r.enter(markList)
	r.kind(oidKey)
	r.inside(r.bits().B, func() {
		r.enter(markList)
		k.N = r.number()
		k.E = r.number()
		r.leave()
	})
	r.leave()
	return k
}

func (r *reader) extensions(c *api.Cert) {
	r.enter(markExtensions)
	r.enter(markList)
	for r.more() {
		r.extension(c)
	}
	r.leave()
	r.leave()
}

func (r *reader) extension(c *api.Cert) {
	r.enter(markList)
	oid := r.take(markOid)
	if r.at(markBool) {
		r.take(markBool)
	}
	r.inside(r.take(markBytes), func() { r.said(string(oid), c) })
	r.leave()
}

// said is what an extension says.
func (r *reader) said(oid string, c *api.Cert) {
	switch oid {
	case oidAuthority:
		c.Authority = true
		c.Depth = r.depth()
	case oidUses:
		c.Uses = usesOf(r.bits())
	case oidNames:
		r.names(c)
	case oidPolicies:
		c.Policies = r.policies()
	default:
		r.amiss = true
	}
}

func (r *reader) depth() int {
	depth := anyDepth
	r.enter(markList)
	r.take(markBool)
	if r.more() {
		depth = r.short()
	}
	r.leave()
	return depth
}

// usesOf is what bits tell, some number, if there are more of them than Uses has.
func usesOf(b api.Bits) int {
	uses := 0
	for i, eight := range b.B {
		uses |= int(bits.Reverse8(eight)) << (8 * i)
	}
	return uses
}

func (r *reader) names(c *api.Cert) {
	r.enter(markList)
	c.Permitted = r.within(markPermitted)
	c.Excluded = r.within(markExcluded)
	r.leave()
}

func (r *reader) within(mark byte) []api.Name {
	if !r.at(mark) {
		return nil
	}
	var l []api.Name
	r.enter(mark)
	for r.more() {
		r.enter(markList)
		r.enter(markDirectory)
		l = append(l, r.name())
		r.leave()
		r.leave()
	}
	r.leave()
	return l
}

func (r *reader) policies() [][]uint32 {
	var l [][]uint32
	r.enter(markList)
	for r.more() {
		r.enter(markList)
		l = append(l, r.oid())
		r.leave()
	}
	r.leave()
	return l
}
