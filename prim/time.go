package prim

import (
	"bytes"
	"sort"

	"charter/api"
)

const (
	// Of the year two digits, or all four.
	markShort = 0x17
	markLong  = 0x18
	// The years that have the mark of two digits.
	firstShort = 1950
	lastShort  = 2049

	maxYear      = 9999
	secondsOfDay = 24 * 60 * 60
)

// Time is a moment's mark and body: P8.4.
func Time(t api.Time) (byte, []byte, error) {
	if !isTime(t) {
		return 0, nil, api.ErrArg
	}
	mark, body := byte(markShort), make([]byte, 0, len("YYYYMMDDhhmmssZ"))
	if t.Year < firstShort || t.Year > lastShort {
		mark, body = markLong, withPair(body, t.Year/100)
	}
	for _, n := range [...]int{t.Year % 100, t.Month, t.Day, t.Hour, t.Minute, t.Second} {
		body = withPair(body, n)
	}
	return mark, append(body, 'Z'), nil
}

// ReadTime reads it: P8.4.
func ReadTime(mark byte, body []byte) (api.Time, error) {
	year, rest := yearOf(mark, body)
	if len(rest) != len("MMDDhhmmssZ") {
		return api.Time{}, api.ErrForm
	}
	t := api.Time{
		Year: year, Month: pair(rest[0:]), Day: pair(rest[2:]),
		Hour: pair(rest[4:]), Minute: pair(rest[6:]), Second: pair(rest[8:]),
	}
	// What are no digits, another mark's year, and anything in the place of Z, aren't what Time makes.
	itsMark, again, err := Time(t)
	if err != nil || itsMark != mark || !bytes.Equal(again, body) {
		return api.Time{}, api.ErrForm
	}
	return t, nil
}

// Count counts a moment's seconds: P8.4.
func Count(t api.Time) (int64, error) {
	if !isTime(t) {
		return 0, api.ErrArg
	}
	days := daysAhead(t.Year) + t.Day - 1
	for month := 1; month < t.Month; month++ {
		days += daysOf(t.Year, month)
	}
	return int64(days)*secondsOfDay + int64((t.Hour*60+t.Minute)*60+t.Second), nil
}

// At is the moment of a count: P8.4.
func At(count int64) (api.Time, error) {
	if count < 0 || count >= int64(daysAhead(maxYear+1))*secondsOfDay {
		return api.Time{}, api.ErrArg
	}
	days, seconds := int(count/secondsOfDay), int(count%secondsOfDay)
	year := 1 + sort.Search(maxYear, func(i int) bool { return days < daysAhead(i+2) })
	days -= daysAhead(year)
	month := 1
	for days >= daysOf(year, month) {
		days -= daysOf(year, month)
		month++
	}
	return api.Time{
		Year: year, Month: month, Day: days + 1,
		Hour: seconds / 3600, Minute: seconds / 60 % 60, Second: seconds % 60,
	}, nil
}

func isTime(t api.Time) bool {
	return within(t.Year, 1, maxYear) && within(t.Month, 1, 12) && within(t.Day, 1, daysOf(t.Year, t.Month)) &&
		within(t.Hour, 0, 23) && within(t.Minute, 0, 59) && within(t.Second, 0, 59)
}

func within(n, least, most int) bool { return least <= n && n <= most }

// daysAhead is how many days there are from the beginning of the year 1 up to that of another year.
func daysAhead(year int) int {
	years := year - 1
	return 365*years + years/4 - years/100 + years/400
}

func daysOf(year, month int) int {
	switch month {
	case 2:
		if year%4 == 0 && (year%100 != 0 || year%400 == 0) {
			return 29
		}
		return 28
	case 4, 6, 9, 11:
		return 30
	}
	return 31
}

// withPair is a body with two digits behind it.
func withPair(body []byte, n int) []byte { return append(body, '0'+byte(n/10), '0'+byte(n%10)) }

// pair is what two digits tell, some number if they are none.
func pair(body []byte) int { return 10*int(body[0]-'0') + int(body[1]-'0') }

// yearOf is the year that a body begins with, and what is behind it; nothing, if it doesn't begin so.
func yearOf(mark byte, body []byte) (int, []byte) {
	switch {
	case mark == markShort && len(body) >= 2:
		year := 1900 + pair(body)
		if year < firstShort {
			year += 100
		}
		return year, body[2:]
	case mark == markLong && len(body) >= 4:
		return 100*pair(body) + pair(body[2:]), body[4:]
	}
	return 0, nil
}
