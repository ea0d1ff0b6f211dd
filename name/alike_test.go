package name

import (
	"bytes"
	"math/rand"
	"regexp"
	"slices"
	"strings"
	"testing"

	"charter/api"
)

var blanks = regexp.MustCompile(" +")

// plainOf is the plain text by the document's words.
func plainOf(text []byte) []byte {
	plain := blanks.ReplaceAll(bytes.Trim(text, " "), []byte(" "))
	for small := byte('a'); small <= 'z'; small++ {
		plain = bytes.ReplaceAll(plain, []byte{small - 32}, []byte{small})
	}
	return plain
}

// stepsAre tells by the document's words whether two steps are alike.
func stepsAre(a, b []api.Attr) bool {
	in := func(l []api.Attr) func(api.Attr) bool {
		return func(x api.Attr) bool {
			return !slices.ContainsFunc(l, func(y api.Attr) bool {
				return slices.Equal(x.Type, y.Type) && bytes.Equal(plainOf(x.Text), plainOf(y.Text))
			})
		}
	}
	return !slices.ContainsFunc(a, in(b)) && !slices.ContainsFunc(b, in(a))
}

// beginsLike tells whether the first steps of a, as many as b has, are alike to those of b.
func beginsLike(a, b api.Name) bool {
	for i := range b {
		if i >= len(a) || !stepsAre(a[i], b[i]) {
			return false
		}
	}
	return true
}

// checkPair holds Alike and Within of two names against the document's words, either way round; it tells whether they
// are alike, and whether a is within b.
func checkPair(t *testing.T, a, b api.Name) (bool, bool) {
	t.Helper()
	within, around := beginsLike(a, b), beginsLike(b, a)
	alike := within && len(a) == len(b)
	if Alike(a, b) != alike || Alike(b, a) != alike {
		t.Errorf("%v and %v are alike: %v, %v, not %v", a, b, Alike(a, b), Alike(b, a), alike)
	}
	if Within(a, b) != within || Within(b, a) != around {
		t.Errorf("%v is within %v: %v, not %v; the other way round: %v, not %v", a, b, Within(a, b), within, Within(b, a), around)
	}
	return alike, within
}

// checkAre checks likewise, and what they are, too.
func checkAre(t *testing.T, a, b api.Name, alike, within bool) {
	t.Helper()
	if gotAlike, gotWithin := checkPair(t, a, b); gotAlike != alike || gotWithin != within {
		t.Errorf("by the document's words %v and %v are alike: %v, the first within the second: %v", a, b, gotAlike, gotWithin)
	}
}

func checkPlain(t *testing.T, text []byte) {
	t.Helper()
	got, want := Plain(text), plainOf(text)
	if !bytes.Equal(got, want) {
		t.Errorf("Plain of %q is %q, not %q", text, got, want)
	}
	if again := Plain(got); !bytes.Equal(again, got) {
		t.Errorf("Plain of the plain text %q is %q", got, again)
	}
}

// P9.3: the document's example, and others that are written out.
func TestPlainOfLittle(t *testing.T) {
	for text, want := range map[string]string{
		"  Ab  C ": "ab c", "": "", " ": "", "    ": "", "a": "a", "A": "a", "AZaz@[`{09": "azaz@[`{09", "a b": "a b", "a  b": "a b", " a": "a", "a   ": "a",
		"\tA\t": "\ta\t", "\nA \n": "\na \n", "\u00a0A\u00a0": "\u00a0a\u00a0", "\u00c4 \u0130": "\u00c4 \u0130", "K\u212a": "k\u212a", "\xff  A\xc0 ": "\xff a\xc0", "\x00 \x00": "\x00 \x00",
	} {
		if got := Plain([]byte(text)); string(got) != want {
			t.Errorf("Plain of %q is %q", text, got)
		}
		checkPlain(t, []byte(text))
	}
	if got := Plain(nil); len(got) != 0 {
		t.Errorf("Plain of nothing is %q", got)
	}
}

// P9.3, P9.5: each byte, alone, between blanks, and between letters.
func TestPlainOfEachByte(t *testing.T) {
	for v := range 256 {
		b := byte(v)
		for _, text := range [][]byte{{b}, {b, b}, {' ', b, ' '}, {'A', b, b, 'Z'}, {' ', ' ', b, ' ', ' ', b}} {
			checkPlain(t, text)
		}
		want := b
		if strings.IndexByte("ABCDEFGHIJKLMNOPQRSTUVWXYZ", b) >= 0 {
			want = b + 32
		}
		if got := Plain([]byte{'x', b, 'x'}); !bytes.Equal(got, []byte{'x', want, 'x'}) {
			t.Errorf("Plain of %02x between others is %x", b, got)
		}
	}
}

// P9.3, P9.5: all short texts of those bytes that matter, and long ones.
func TestPlainOfAllShortTexts(t *testing.T) {
	var all func(text []byte)
	all = func(text []byte) {
		checkPlain(t, text)
		if len(text) == 6 {
			return
		}
		for _, b := range []byte(" aBZ\t\xa0") {
			all(append(text, b))
		}
	}
	all(make([]byte, 0, 6))
	r := draws()
	for n := range 500 {
		text := make([]byte, n*n/10)
		for i := range text {
			text[i] = pick(r, []byte("    abXYZ\xc3"))
		}
		checkPlain(t, text)
	}
	checkPlain(t, bytes.Repeat([]byte{' '}, 1<<20))
	checkPlain(t, bytes.Repeat([]byte(" A "), 1<<20))
}

// P9.3: names that are written out.
func TestAlikeOfLittle(t *testing.T) {
	checkAre(t, nil, nil, true, true)
	checkAre(t, nil, api.Name{}, true, true)
	checkAre(t, stepsOf("a"), nil, false, true)
	checkAre(t, nil, stepsOf("a"), false, false)
	checkAre(t, stepsOf("a"), stepsOf("a"), true, true)
	checkAre(t, stepsOf("  Ab  C "), stepsOf("aB c"), true, true)
	checkAre(t, stepsOf("a b"), stepsOf("ab"), false, false)
	checkAre(t, stepsOf("a"), stepsOf("b"), false, false)
	checkAre(t, stepsOf("\u00e4"), stepsOf("\u00c4"), false, false)
	checkAre(t, stepsOf("a", "b"), stepsOf("A"), false, true)
	checkAre(t, stepsOf("a", "b"), stepsOf("b"), false, false)
	checkAre(t, stepsOf("a", "b"), stepsOf("a", "b"), true, true)
	checkAre(t, stepsOf("a", "b"), stepsOf("b", "a"), false, false)
	checkAre(t, stepsOf("a", "b", "c"), stepsOf("a", "x"), false, false)
	checkAre(t, stepsOf("a", "a"), stepsOf("a"), false, true)
	checkAre(t, stepsOf("a"), stepsOf("a", "a"), false, false)
	checkAre(t, longest(), longest(), true, true)
	checkAre(t, longest(), longest()[:7], false, true)
}

// P9.3: attributes are alike whatever their marks are, but not those of other types.
func TestAlikeOfMarksAndTypes(t *testing.T) {
	of := func(mark byte, kind ...uint32) api.Name {
		return api.Name{{{Type: kind, Mark: mark, Text: []byte("a")}}}
	}
	for mark := range 256 {
		checkAre(t, of(0x0c, 2, 5, 4, 3), of(byte(mark), 2, 5, 4, 3), true, true)
	}
	for _, kind := range [][]uint32{nil, {2}, {2, 5}, {2, 5, 4}, {2, 5, 4, 4}, {3, 5, 4, 3}, {2, 5, 4, 3, 0}, {2, 5, 4, 3 + 1<<31}, {2, 5, 4, 3 + 1<<8}, {1, 5, 4, 3}} {
		checkAre(t, of(0x0c, 2, 5, 4, 3), of(0x0c, kind...), false, false)
		checkAre(t, of(0x0c, kind...), of(0x13, slices.Clone(kind)...), true, true)
	}
	// A type and a text that are the same, once one stands behind the other.
	checkAre(t, api.Name{{{Type: []uint32{1, 97}, Text: []byte("b")}}}, api.Name{{{Type: []uint32{1}, Text: []byte("ab")}}}, false, false)
	checkAre(t, api.Name{{{Type: []uint32{}}}}, api.Name{{{Text: []byte("  ")}}}, true, true)
}

// P9.3: of steps it doesn't matter in which order attributes stand, nor how many are alike.
func TestAlikeOfSteps(t *testing.T) {
	step := func(texts ...string) api.Name {
		var l []api.Attr
		for _, text := range texts {
			l = append(l, word(0x0c, text))
		}
		return api.Name{l}
	}
	checkAre(t, step("a", "b"), step("b", "a"), true, true)
	checkAre(t, step("a", "A"), step("a"), true, true)
	checkAre(t, step("a", "b"), step("a"), false, false)
	checkAre(t, step("a", "a", "b"), step("b", "B", "a"), true, true)
	checkAre(t, step("a", "b", "c"), step("a", "b", "d"), false, false)
	checkAre(t, step(), step(), true, true)
	checkAre(t, step(), step("a"), false, false)
	checkAre(t, step(), step(""), false, false)
	checkAre(t, step(""), step(" "), true, true)
	checkAre(t, step(), nil, false, true)
	checkAre(t, api.Name{nil}, api.Name{{}}, true, true)
	checkAre(t, append(step("a", "b"), step("c")...), append(step("b", "a"), step("c", "C")...), true, true)
	checkAre(t, append(step("a"), step("b")...), step("a", "b"), false, false)
}

// fewNames are names of up to two steps, of some few attributes, also such as may not be.
func fewNames() []api.Name {
	attrs := []api.Attr{word(0x0c, "a"), word(0x13, " A"), word(0x0c, "b"), {Type: []uint32{2, 5}, Mark: 0x0c, Text: []byte("a")}}
	steps := [][]api.Attr{nil}
	for i, a := range attrs {
		steps = append(steps, []api.Attr{a})
		for _, b := range attrs[i:] {
			steps = append(steps, []api.Attr{b, a})
		}
	}
	l := []api.Name{nil}
	for i, a := range steps {
		l = append(l, api.Name{a})
		for j, b := range steps {
			if (i+j)%3 == 0 {
				l = append(l, api.Name{a, b})
			}
		}
	}
	return l
}

// P9.3, P9.5: being alike goes both ways, and is handed on; so is being within; and of two that are each within the
// other one both are alike.
func TestAlikeIsHandedOn(t *testing.T) {
	l := fewNames()
	counts := map[[2]bool]int{}
	alike, within := make([][]bool, len(l)), make([][]bool, len(l))
	for i, a := range l {
		for j, b := range l {
			isAlike, isWithin := checkPair(t, a, b)
			isAlike, isWithin = isAlike && Alike(a, b), isWithin && Within(a, b)
			counts[[2]bool{isAlike, isWithin}]++
			alike[i], within[i] = append(alike[i], isAlike), append(within[i], isWithin)
			if i == j && !(isAlike && isWithin) {
				t.Errorf("%v isn't alike to itself", a)
			}
		}
	}
	if counts[[2]bool{true, true}] < 2*len(l) || counts[[2]bool{false, true}] < 2*len(l) || counts[[2]bool{true, false}] > 0 {
		t.Errorf("alike, within: %v", counts)
	}
	for i := range l {
		for j := range l {
			if alike[i][j] != (within[i][j] && within[j][i]) || alike[i][j] != alike[j][i] {
				t.Errorf("%v and %v: alike %v, within %v, %v", l[i], l[j], alike[i][j], within[i][j], within[j][i])
			}
			for k := range l {
				if alike[i][j] && alike[j][k] && !alike[i][k] || within[i][j] && within[j][k] && !within[i][k] {
					t.Errorf("it isn't handed on by %v, %v, %v", l[i], l[j], l[k])
				}
			}
		}
	}
}

// disguised is a name that is alike, told in another way.
func disguised(r *rand.Rand, n api.Name) api.Name {
	var out api.Name
	for _, step := range n {
		var l []api.Attr
		for _, a := range append(slices.Clone(step), step[r.Intn(len(step))]) {
			text := strings.ReplaceAll(string(a.Text), " ", strings.Repeat(" ", 1+r.Intn(3)))
			if r.Intn(2) == 0 {
				text = " " + strings.Map(func(sign rune) rune {
					if 'a' <= sign && sign <= 'z' && r.Intn(2) == 0 {
						return sign - 32
					}
					return sign
				}, text) + "  "
			}
			l = append(l, api.Attr{Type: slices.Clone(a.Type), Mark: byte(r.Intn(256)), Text: []byte(text)})
		}
		r.Shuffle(len(l), func(i, j int) { l[i], l[j] = l[j], l[i] })
		out = append(out, l)
	}
	return out
}

// P9.3: names of all kinds, against such as are alike, are within, and aren't by one byte.
func TestAlikeOfDisguises(t *testing.T) {
	r := draws()
	for range 2000 {
		n := drawnName(r)
		other := disguised(r, n)
		checkAre(t, n, other, true, true)
		longer := append(slices.Clone(other), []api.Attr{drawnAttr(r)})
		checkAre(t, longer, n, false, true)
		checkAre(t, n, longer, false, false)
		if len(n) == 0 {
			continue
		}
		at := r.Intn(len(n))
		turned := &other[at][r.Intn(len(other[at]))]
		if r.Intn(2) == 0 {
			turned.Text[r.Intn(len(turned.Text))] ^= 1 << r.Intn(8)
		} else {
			turned.Type[r.Intn(len(turned.Type))] ^= 1 << r.Intn(32)
		}
		checkPair(t, n, other)
		checkPair(t, n[:at], other)
	}
}

// P9.3, P1: names that are much longer than any that may be are held against each other at once, too.
func TestAlikeOfLongNames(t *testing.T) {
	r := draws()
	var step []api.Attr
	for i := range 200000 {
		step = append(step, api.Attr{Type: []uint32{uint32(i)}, Text: []byte("A")})
	}
	other := slices.Clone(step)
	r.Shuffle(len(other), func(i, j int) { other[i], other[j] = other[j], other[i] })
	a, b := api.Name{step}, api.Name{other}
	if !Alike(a, b) || !Within(a, b) {
		t.Error("a step of many attributes isn't alike to itself in another order")
	}
	other[77].Text = []byte("b")
	if Alike(a, b) || Within(b, a) {
		t.Error("a step of many attributes is alike to one with another attribute")
	}
	long := slices.Repeat(stepsOf("a"), 200000)
	if !Alike(long, slices.Clone(long)) || !Within(long, long[:199999]) || Alike(long, long[:199999]) || Within(long[:199999], long) {
		t.Error("names of many steps are told wrongly")
	}
	text := strings.Repeat("a ", 1<<20)
	if !Alike(stepsOf(text), stepsOf(text+" ")) || Alike(stepsOf(text), stepsOf(text+"b")) {
		t.Error("names of long texts are told wrongly")
	}
}

func BenchmarkAlikeOfTheLongest(b *testing.B) {
	n, other := longest(), longest()
	for b.Loop() {
		if !Alike(n, other) {
			b.Fatal("they aren't alike")
		}
	}
}
