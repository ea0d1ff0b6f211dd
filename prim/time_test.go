package prim

import (
	"bytes"
	"encoding/asn1"
	"fmt"
	"math"
	"math/rand"
	"slices"
	"testing"
	"time"

	"charter/api"
)

// leaps tells by the document's words whether a February has 29 days.
func leaps(year int) bool {
	if year%400 == 0 {
		return true
	}
	return year%4 == 0 && year%100 != 0
}

// momentMayBe tells by the document's words whether a moment may be.
func momentMayBe(t api.Time) bool {
	if t.Year < 1 || t.Year > 9999 || t.Month < 1 || t.Month > 12 {
		return false
	}
	days := []int{31, 28, 31, 30, 31, 30, 31, 31, 30, 31, 30, 31}[t.Month-1]
	if t.Month == 2 && leaps(t.Year) {
		days = 29
	}
	return t.Day >= 1 && t.Day <= days && t.Hour >= 0 && t.Hour <= 23 && t.Minute >= 0 && t.Minute <= 59 && t.Second >= 0 && t.Second <= 59
}

// wantedMoment is a moment's mark and body by the document's words.
func wantedMoment(t api.Time) (byte, []byte) {
	behind := fmt.Sprintf("%02d%02d%02d%02d%02dZ", t.Month, t.Day, t.Hour, t.Minute, t.Second)
	if t.Year >= 1950 && t.Year <= 2049 {
		return 0x17, fmt.Appendf(nil, "%02d%s", t.Year%100, behind)
	}
	return 0x18, fmt.Appendf(nil, "%04d%s", t.Year, behind)
}

// momentOf reads a body by the document's words; false, if mark and body are no moment's.
func momentOf(mark byte, body []byte) (api.Time, bool) {
	ahead := map[byte]int{0x17: 2, 0x18: 4}[mark]
	if ahead == 0 || len(body) != ahead+11 || body[ahead+10] != 'Z' {
		return api.Time{}, false
	}
	digits := make([]int, 0, 14)
	for _, b := range body[:ahead+10] {
		if b < '0' || b > '9' {
			return api.Time{}, false
		}
		digits = append(digits, int(b-'0'))
	}
	two := func(at int) int { return 10*digits[at] + digits[at+1] }
	year := two(0)
	switch {
	case mark == 0x18:
		year = 100*year + two(2)
		if year >= 1950 && year <= 2049 {
			return api.Time{}, false
		}
	case year >= 50:
		year += 1900
	default:
		year += 2000
	}
	t := api.Time{Year: year, Month: two(ahead), Day: two(ahead + 2), Hour: two(ahead + 4), Minute: two(ahead + 6), Second: two(ahead + 8)}
	return t, momentMayBe(t)
}

// checkMoment checks all that is told of a moment, one that may not be too.
func checkMoment(t *testing.T, moment api.Time) {
	t.Helper()
	mark, body, err := Time(moment)
	count, countErr := Count(moment)
	if !momentMayBe(moment) {
		checkRefused(t, "Time", body, err, api.ErrArg)
		checkError(t, "Count", countErr, api.ErrArg)
		if mark != 0 || count != 0 {
			t.Errorf("of %v %02x and %d are told beside errors", moment, mark, count)
		}
		return
	}
	wantMark, want := wantedMoment(moment)
	checkBytes(t, "Time", body, err, want)
	if mark != wantMark {
		t.Errorf("the mark of %v is %02x, not %02x", moment, mark, wantMark)
	}
	if read, err := ReadTime(mark, body); read != moment || err != nil {
		t.Errorf("%v is read as %v, %v", moment, read, err)
	}
	if at, err := At(count); countErr != nil || at != moment || err != nil {
		t.Errorf("the count of %v is %d, %v, of which the moment is %v, %v", moment, count, countErr, at, err)
	}
}

func checkReadTime(t *testing.T, mark byte, body []byte) bool {
	t.Helper()
	got, err := ReadTime(mark, body)
	want, is := momentOf(mark, body)
	if !is {
		checkError(t, "ReadTime", err, api.ErrForm)
		if got != (api.Time{}) {
			t.Errorf("ReadTime of %02x, %q is %v beside an error", mark, short(body), got)
		}
		return false
	}
	if got != want || err != nil {
		t.Errorf("ReadTime of %02x, %q is %v, %v, not %v", mark, body, got, err, want)
	}
	again, written, err := Time(got)
	checkBytes(t, "Time of what was read", written, err, body)
	if again != mark {
		t.Errorf("what was read of %02x is written as %02x", mark, again)
	}
	return true
}

func moment(year, month, day, hour, minute, second int) api.Time {
	return api.Time{Year: year, Month: month, Day: day, Hour: hour, Minute: minute, Second: second}
}

// randomMoment is one that may be, often at an edge.
func randomMoment(r *rand.Rand) api.Time {
	pick := func(least, most int) int {
		switch r.Intn(4) {
		case 0:
			return least
		case 1:
			return most
		}
		return least + r.Intn(most-least+1)
	}
	out := moment(1+r.Intn(9999), pick(1, 12), pick(1, 31), pick(0, 23), pick(0, 59), pick(0, 59))
	switch r.Intn(4) {
	case 0:
		out.Year = 1940 + r.Intn(120)
	case 1:
		out.Year = 100 * (1 + r.Intn(99))
	}
	for !momentMayBe(out) {
		out.Day--
	}
	return out
}

// P8.4: the document's examples, and others written out.
func TestTimeWrittenOut(t *testing.T) {
	for _, c := range []struct {
		moment api.Time
		mark   byte
		body   string
		count  int64
	}{
		{moment(2049, 12, 31, 23, 59, 59), 0x17, "491231235959Z", 64660204799},
		{moment(2050, 1, 1, 0, 0, 0), 0x18, "20500101000000Z", 64660204800},
		{moment(1950, 1, 1, 0, 0, 0), 0x17, "500101000000Z", 61504444800},
		{moment(1949, 12, 31, 23, 59, 59), 0x18, "19491231235959Z", 61504444799},
		{moment(1999, 12, 31, 23, 59, 59), 0x17, "991231235959Z", 63082281599},
		{moment(2000, 1, 1, 0, 0, 0), 0x17, "000101000000Z", 63082281600},
		{moment(2000, 2, 29, 1, 2, 3), 0x17, "000229010203Z", 63082281600 + 59*86400 + 3723},
		{moment(1970, 1, 1, 0, 0, 0), 0x17, "700101000000Z", 62135596800},
		{moment(1, 1, 1, 0, 0, 0), 0x18, "00010101000000Z", 0},
		{moment(1, 1, 1, 0, 0, 1), 0x18, "00010101000001Z", 1},
		{moment(1, 1, 2, 0, 0, 0), 0x18, "00010102000000Z", 86400},
		{moment(9999, 12, 31, 23, 59, 59), 0x18, "99991231235959Z", 315537897599},
	} {
		mark, body, err := Time(c.moment)
		checkBytes(t, "Time", body, err, []byte(c.body))
		if mark != c.mark {
			t.Errorf("the mark of %v is %02x", c.moment, mark)
		}
		if read, err := ReadTime(c.mark, []byte(c.body)); read != c.moment || err != nil {
			t.Errorf("%02x, %s is read as %v, %v", c.mark, c.body, read, err)
		}
		if count, err := Count(c.moment); count != c.count || err != nil {
			t.Errorf("the count of %v is %d, %v, not %d", c.moment, count, err, c.count)
		}
		if at, err := At(c.count); at != c.moment || err != nil {
			t.Errorf("the moment of %d is %v, %v, not %v", c.count, at, err, c.moment)
		}
	}
}

// P8.4: each day there is, its first second and its last one, day by day.
func TestCountOfEachDay(t *testing.T) {
	count := int64(0)
	for year := 1; year <= 9999; year++ {
		for month := 1; month <= 12; month++ {
			for day := 1; momentMayBe(moment(year, month, day, 0, 0, 0)); day++ {
				first, last := moment(year, month, day, 0, 0, 0), moment(year, month, day, 23, 59, 59)
				if got, err := Count(first); got != count || err != nil {
					t.Fatalf("the count of %v is %d, %v, not %d", first, got, err, count)
				}
				if got, err := At(count); got != first || err != nil {
					t.Fatalf("the moment of %d is %v, %v, not %v", count, got, err, first)
				}
				count += 86400
				if got, err := At(count - 1); got != last || err != nil {
					t.Fatalf("the moment of %d is %v, %v, not %v", count-1, got, err, last)
				}
			}
		}
	}
	if count != 315537897600 {
		t.Errorf("there are %d seconds", count)
	}
}

// P8.4: each second of some days.
func TestCountOfEachSecond(t *testing.T) {
	for _, day := range []api.Time{moment(1, 1, 1, 0, 0, 0), moment(2000, 2, 29, 0, 0, 0), moment(9999, 12, 31, 0, 0, 0)} {
		begin, err := Count(day)
		if err != nil {
			t.Fatal(err)
		}
		for second := range 86400 {
			at := day
			at.Hour, at.Minute, at.Second = second/3600, second%3600/60, second%60
			got, err := Count(at)
			if got != begin+int64(second) || err != nil {
				t.Fatalf("the count of %v is %d, %v", at, got, err)
			}
			if back, err := At(got); back != at || err != nil {
				t.Fatalf("the moment of %d is %v, %v, not %v", got, back, err, at)
			}
		}
	}
}

// P8.4: as Go's own calendar counts.
func TestCountAsGoTellsIt(t *testing.T) {
	r := draws()
	begin := time.Date(1, 1, 1, 0, 0, 0, 0, time.UTC).Unix()
	for range 100000 {
		at := randomMoment(r)
		want := time.Date(at.Year, time.Month(at.Month), at.Day, at.Hour, at.Minute, at.Second, 0, time.UTC).Unix() - begin
		if got, err := Count(at); got != want || err != nil {
			t.Fatalf("the count of %v is %d, %v, not %d", at, got, err, want)
		}
		count := r.Int63n(315537897600)
		byGo := time.Unix(begin+count, 0).UTC()
		if got, err := At(count); got != moment(byGo.Year(), int(byGo.Month()), byGo.Day(), byGo.Hour(), byGo.Minute(), byGo.Second()) || err != nil {
			t.Fatalf("the moment of %d is %v, %v, not %v", count, got, err, byGo)
		}
	}
}

// P8.4: as Go's own encoding tells moments.
func TestTimeAsGoTellsIt(t *testing.T) {
	r := draws()
	for range 3000 {
		at := randomMoment(r)
		mark, body, err := Time(at)
		byGo, goErr := asn1.Marshal(time.Date(at.Year, time.Month(at.Month), at.Day, at.Hour, at.Minute, at.Second, 0, time.UTC))
		if goErr != nil {
			t.Fatal(goErr)
		}
		checkBytes(t, "Time", body, err, byGo[2:])
		if mark != byGo[0] {
			t.Errorf("the mark of %v is %02x, not %02x", at, mark, byGo[0])
		}
	}
}

// P8.4: counts that are none's.
func TestAtOfNoCount(t *testing.T) {
	for _, count := range []int64{-1, -2, -86400, -1 << 31, -1 << 32, math.MinInt64, 315537897600, 315537897601, 1 << 40, 1 << 62, math.MaxInt64} {
		got, err := At(count)
		checkError(t, "At", err, api.ErrArg)
		if got != (api.Time{}) {
			t.Errorf("the moment of %d is %v", count, got)
		}
	}
}

// P8.4: each part about its edges, and far from them.
func TestMomentsThatMayNotBe(t *testing.T) {
	far := []int{math.MinInt, math.MinInt32, -400, -100, -1, 0, 1, 24, 60, 61, 99, 100, 256, 9999, 10000, 10001, 65536, math.MaxInt32, math.MaxInt}
	for _, year := range []int{1, 4, 100, 400, 1900, 1949, 1950, 2000, 2023, 2024, 2049, 2050, 2100, 9996, 9999} {
		for month := -1; month <= 14; month++ {
			for day := -1; day <= 33; day++ {
				checkMoment(t, moment(year, month, day, 12, 30, 30))
			}
		}
		base := moment(year, 2, 28, 23, 59, 59)
		for _, n := range far {
			for part := range 6 {
				at := base
				*[]*int{&at.Year, &at.Month, &at.Day, &at.Hour, &at.Minute, &at.Second}[part] = n
				checkMoment(t, at)
			}
		}
		for n := -2; n < 70; n++ {
			checkMoment(t, moment(year, 1, 1, n, 0, 0))
			checkMoment(t, moment(year, 1, 1, 0, n, 0))
			checkMoment(t, moment(year, 1, 1, 0, 0, n))
		}
	}
	for year := -3; year < 10010; year++ {
		for _, day := range []int{28, 29, 30} {
			checkMoment(t, moment(year, 2, day, 0, 0, 0))
		}
		checkMoment(t, moment(year, 4, 31, 0, 0, 0))
		checkMoment(t, moment(year, 12, 31, 23, 59, 59))
	}
	checkMoment(t, api.Time{})
}

// P8.4, P8.7: moments of all kinds, under each of both marks, with each byte of their bodies another one.
func TestReadTimeWithEachByteAnother(t *testing.T) {
	r := draws()
	counts := map[bool]int{}
	moments := []api.Time{moment(2049, 12, 31, 23, 59, 59), moment(2050, 1, 1, 0, 0, 0), moment(1950, 10, 10, 20, 50, 50), moment(1949, 2, 28, 19, 9, 9), moment(2000, 2, 29, 0, 0, 0), moment(1, 1, 1, 0, 0, 0), moment(9999, 11, 30, 10, 10, 10)}
	for range 30 {
		moments = append(moments, randomMoment(r))
	}
	for _, at := range moments {
		_, body := wantedMoment(at)
		for i := range body {
			for b := range 256 {
				other := bytes.Clone(body)
				other[i] = byte(b)
				counts[checkReadTime(t, 0x17, other)]++
				counts[checkReadTime(t, 0x18, other)]++
			}
		}
		for n := range len(body) + 1 {
			checkReadTime(t, 0x17, body[:n])
			checkReadTime(t, 0x18, body[:n])
			checkReadTime(t, 0x17, body[n:])
			checkReadTime(t, 0x18, body[n:])
		}
		for _, behind := range []string{"Z", "0", "\x00", "+0000"} {
			checkReadTime(t, 0x17, append(bytes.Clone(body), behind...))
			checkReadTime(t, 0x18, append(bytes.Clone(body), behind...))
		}
	}
	if counts[true] < 1000 || counts[false] < 1000 {
		t.Errorf("%d bodies are moments', %d aren't", counts[true], counts[false])
	}
}

// P8.4: each pair of digits at each place.
func TestReadTimeOfEachPair(t *testing.T) {
	for mark, body := range map[byte]string{0x17: "240229125959Z", 0x18: "18240229125959Z"} {
		for at := 0; at+2 < len(body); at += 2 {
			for n := range 100 {
				other := []byte(body)
				copy(other[at:], fmt.Sprintf("%02d", n))
				checkReadTime(t, mark, other)
			}
		}
	}
	for year := range 10000 {
		for _, behind := range []string{"0101000000Z", "0228000000Z", "0229000000Z", "0230000000Z", "1231235959Z"} {
			checkReadTime(t, 0x18, fmt.Appendf(nil, "%04d%s", year, behind))
		}
	}
}

// P8.4: all marks, of which two are moments'.
func TestReadTimeOfEachMark(t *testing.T) {
	for mark := range 256 {
		for _, body := range []string{"", "Z", "491231235959Z", "20491231235959Z", "500101000000Z", "19500101000000Z", "20500101000000Z", "19491231235959Z", "00000101000000Z", "000101000000Z"} {
			is := checkReadTime(t, byte(mark), []byte(body))
			if is && mark != 0x17 && mark != 0x18 {
				t.Errorf("mark %02x is a moment's", mark)
			}
		}
	}
	for _, c := range []struct {
		mark byte
		body string
	}{
		{0x18, "20491231235959Z"}, {0x18, "19500101000000Z"}, {0x18, "00000101000000Z"}, {0x17, "4912312359Z"}, {0x17, "491231235959z"},
		{0x17, "491231235960Z"}, {0x17, "491231240000Z"}, {0x17, "490229000000Z"}, {0x17, "490001000000Z"}, {0x17, "490100000000Z"}, {0x17, "491301000000Z"},
		{0x17, "49123123595:Z"}, {0x17, "49123123595/Z"}, {0x17, "491231235959+0000"}, {0x18, "20500101000000.0Z"}, {0x17, ""}, {0x18, ""},
	} {
		_, err := ReadTime(c.mark, []byte(c.body))
		checkError(t, "ReadTime of "+c.body, err, api.ErrForm)
	}
	_, err := ReadTime(0x18, bytes.Repeat([]byte{'0'}, 1<<20))
	checkError(t, "ReadTime of many digits", err, api.ErrForm)
}

// P8.7: later moments have greater counts, and greater bodies, but for the turn of the century with the mark of two digits.
func TestLaterMoments(t *testing.T) {
	r := draws()
	later := func(a, b api.Time) int {
		return slices.Compare([]int{a.Year, a.Month, a.Day, a.Hour, a.Minute, a.Second}, []int{b.Year, b.Month, b.Day, b.Hour, b.Minute, b.Second})
	}
	for range 100000 {
		a, b := randomMoment(r), randomMoment(r)
		if r.Intn(2) == 0 {
			b.Year, b.Month = a.Year, a.Month
		}
		if !momentMayBe(b) {
			continue
		}
		countA, err1 := Count(a)
		countB, err2 := Count(b)
		if err1 != nil || err2 != nil || (countA > countB) != (later(a, b) > 0) || (countA == countB) != (a == b) {
			t.Fatalf("of %v and %v the counts are %d and %d", a, b, countA, countB)
		}
		markA, bodyA, _ := Time(a)
		markB, bodyB, _ := Time(b)
		if markA != markB {
			continue
		}
		turned := markA == 0x17 && (a.Year < 2000) != (b.Year < 2000)
		if want := later(a, b); !turned && bytes.Compare(bodyA, bodyB) != want || turned && bytes.Compare(bodyA, bodyB) != -want {
			t.Fatalf("of %v and %v the bodies are %s and %s", a, b, bodyA, bodyB)
		}
	}
}
