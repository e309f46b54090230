package when

import "strconv"

const (
	months     = "JanFebMarAprMayJunJulAugSepOctNovDec"
	weekdays   = "MonTueWedThuFriSatSun"
	nameLength = 3

	// firstWeekday is the place among weekdays of the first day of firstYear, a Thursday.
	firstWeekday = 3

	basicLength = len("20130524T000000Z")
	dayLength   = len("20130524")
	httpLength  = len("Fri, 24 May 2013 00:00:00 GMT")
)

// Basic tells the time t as 20130524T000000Z.
func Basic(t int) string {
	_, _, _, h, min, s, ok := Civil(t)
	if !ok {
		return ""
	}
	return Day(t) + "T" + padded(h, 2) + padded(min, 2) + padded(s, 2) + "Z"
}

// Day tells the day of the time t as 20130524.
func Day(t int) string {
	y, m, d, _, _, _, ok := Civil(t)
	if !ok {
		return ""
	}
	return padded(y, 4) + padded(m, 2) + padded(d, 2)
}

// Iso tells the time t as 2013-05-24T00:00:00.000Z.
func Iso(t int) string {
	y, m, d, h, min, s, ok := Civil(t)
	if !ok {
		return ""
	}
	return padded(y, 4) + "-" + padded(m, 2) + "-" + padded(d, 2) + "T" + clock(h, min, s) + ".000Z"
}

// Http tells the time t as Fri, 24 May 2013 00:00:00 GMT.
func Http(t int) string {
	y, m, d, h, min, s, ok := Civil(t)
	if !ok {
		return ""
	}
	weekday := nameAt(weekdays, (t/daySeconds+firstWeekday)%7)
	return weekday + ", " + padded(d, 2) + " " + nameAt(months, m-1) + " " + padded(y, 4) + " " + clock(h, min, s) + " GMT"
}

// ParseBasic answers the time of which Basic tells s.
func ParseBasic(s string) (int, bool) {
	if len(s) != basicLength {
		return 0, false
	}
	t, ok := Of(number(s[:4]), number(s[4:6]), number(s[6:8]), number(s[9:11]), number(s[11:13]), number(s[13:15]))
	return toldAs(s, t, ok, Basic)
}

// ParseHttp answers the time of which Http tells s.
func ParseHttp(s string) (int, bool) {
	if len(s) != httpLength {
		return 0, false
	}
	t, ok := Of(number(s[12:16]), monthNamed(s[8:11]), number(s[5:7]), number(s[17:19]), number(s[20:22]), number(s[23:25]))
	return toldAs(s, t, ok, Http)
}

// ParseDay answers the midnight with which the day begins that Day tells as s.
func ParseDay(s string) (int, bool) {
	if len(s) != dayLength {
		return 0, false
	}
	return Of(number(s[:4]), number(s[4:6]), number(s[6:]), 0, 0, 0)
}

// toldAs answers t if it is told as s: so what stands between the numbers, and the weekday, need not be read one by one.
func toldAs(s string, t int, ok bool, tell func(t int) string) (int, bool) {
	if !ok || tell(t) != s {
		return 0, false
	}
	return t, true
}

func clock(h, min, s int) string {
	return padded(h, 2) + ":" + padded(min, 2) + ":" + padded(s, 2)
}

// padded tells n by width digits, with noughts ahead.
func padded(n, width int) string {
	s := strconv.Itoa(n)
	for len(s) < width {
		s = "0" + s
	}
	return s
}

// number reads the digits of s. Where one is none it answers -1, which no part of a date or of a clock is.
func number(s string) int {
	n := 0
	for i := range len(s) {
		if s[i] < '0' || s[i] > '9' {
			return -1
		}
		n = n*10 + int(s[i]-'0')
	}
	return n
}

func nameAt(names string, i int) string {
	return names[i*nameLength : (i+1)*nameLength]
}

// monthNamed answers 0 where no month has this name. It goes by whole names, for a search would find one that begins within another.
func monthNamed(name string) int {
	for m := 1; m <= len(months)/nameLength; m++ {
		if nameAt(months, m-1) == name {
			return m
		}
	}
	return 0
}
