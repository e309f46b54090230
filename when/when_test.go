package when

import (
	"math"
	"regexp"
	"strings"
	"testing"
	"time"

	"stowage/api"
)

const (
	basicLayout = "20060102T150405Z"
	dayLayout   = "20060102"
	isoLayout   = "2006-01-02T15:04:05.000Z"
	httpLayout  = "Mon, 02 Jan 2006 15:04:05 GMT"
)

// moments are times at which a year, a month, a day, an hour or a minute begins or ends, and some between.
func moments() []int {
	l := []int{0, 1, 59, 60, 3599, 3600, 86399, 86400, 951868799, 1369353600, api.Last - 86400, api.Last - 1, api.Last}
	for _, y := range []int{1970, 1971, 1972, 1999, 2000, 2001, 2004, 2013, 2023, 2024, 2099, 2100, 2101, 2399, 2400, 2401, 4000, 9996, 9999} {
		for m := range 12 {
			at := int(time.Date(y, time.Month(m+1), 1, 0, 0, 0, 0, time.UTC).Unix())
			for _, step := range []int{-86401, -86400, -1, 0, 1, 45296, 86399, 86400, 14 * 86400, 27*86400 + 86399, 28 * 86400} {
				if at+step >= 0 && at+step <= api.Last {
					l = append(l, at+step)
				}
			}
		}
	}
	return l
}

// noTimes are numbers that are no times.
func noTimes() []int {
	return []int{-1, -2, -86400, -86401, -api.Last, api.Last + 1, api.Last + 2, api.Last + 86400, 2 * api.Last, 1 << 40, math.MaxInt64, math.MaxInt64 - 1, math.MinInt64, math.MinInt64 + 1}
}

func unix(t int) time.Time {
	return time.Unix(int64(t), 0).UTC()
}

// hasParts tells whether Civil tells of t what the library tells.
func hasParts(t int) bool {
	w := unix(t)
	y, m, d, h, min, s, ok := Civil(t)
	return ok && y == w.Year() && m == int(w.Month()) && d == w.Day() && h == w.Hour() && min == w.Minute() && s == w.Second()
}

// 4.1

func TestCivil(t *testing.T) {
	for _, n := range moments() {
		if !hasParts(n) {
			y, m, d, h, min, s, ok := Civil(n)
			t.Error(n, y, m, d, h, min, s, ok)
		}
	}
}

func TestCivilOfTheEnds(t *testing.T) {
	if y, m, d, h, min, s, ok := Civil(0); y != 1970 || m != 1 || d != 1 || h != 0 || min != 0 || s != 0 || !ok {
		t.Error(y, m, d, h, min, s, ok)
	}
	if y, m, d, h, min, s, ok := Civil(253402300799); y != 9999 || m != 12 || d != 31 || h != 23 || min != 59 || s != 59 || !ok {
		t.Error(y, m, d, h, min, s, ok)
	}
}

func TestCivilOfEverySecondOfADay(t *testing.T) {
	for n := 951782400 - 10; n < 951868800+10; n++ {
		if !hasParts(n) {
			t.Fatal(n)
		}
	}
}

func TestCivilOfNoTime(t *testing.T) {
	for _, n := range noTimes() {
		if y, m, d, h, min, s, ok := Civil(n); y != 0 || m != 0 || d != 0 || h != 0 || min != 0 || s != 0 || ok {
			t.Error(n, y, m, d, h, min, s, ok)
		}
	}
}

func TestOf(t *testing.T) {
	for _, c := range []struct{ y, m, d, h, min, s, want int }{
		{1970, 1, 1, 0, 0, 0, 0},
		{1970, 1, 1, 0, 0, 1, 1},
		{1970, 1, 1, 0, 1, 0, 60},
		{1970, 1, 1, 1, 0, 0, 3600},
		{1970, 1, 2, 0, 0, 0, 86400},
		{1970, 2, 1, 0, 0, 0, 2678400},
		{1971, 1, 1, 0, 0, 0, 31536000},
		{2000, 2, 29, 23, 59, 59, 951868799},
		{2013, 5, 24, 0, 0, 0, 1369353600},
		{2100, 3, 1, 0, 0, 0, 4107542400},
		{9999, 12, 31, 23, 59, 59, 253402300799},
	} {
		if n, ok := Of(c.y, c.m, c.d, c.h, c.min, c.s); n != c.want || !ok {
			t.Error(c, n, ok)
		}
	}
}

// TestOfEveryDate asks for each day that a month might have in each year there is, and in those beside them.
func TestOfEveryDate(t *testing.T) {
	for y := 1960; y <= 10010; y++ {
		for m := 0; m <= 13; m++ {
			for d := 0; d <= 32; d++ {
				w := time.Date(y, time.Month(m), d, 23, 59, 59, 0, time.UTC)
				is := y >= 1970 && y <= 9999 && w.Year() == y && int(w.Month()) == m && w.Day() == d
				want := 0
				if is {
					want = int(w.Unix())
				}
				if n, ok := Of(y, m, d, 23, 59, 59); n != want || ok != is {
					t.Fatal(y, m, d, n, ok)
				}
			}
		}
	}
}

func TestOfEveryClock(t *testing.T) {
	for h := -1; h <= 25; h++ {
		for min := -1; min <= 61; min++ {
			for s := -1; s <= 61; s++ {
				is := h >= 0 && h <= 23 && min >= 0 && min <= 59 && s >= 0 && s <= 59
				want := 0
				if is {
					want = 1369353600 + h*3600 + min*60 + s
				}
				if n, ok := Of(2013, 5, 24, h, min, s); n != want || ok != is {
					t.Fatal(h, min, s, n, ok)
				}
			}
		}
	}
}

// Each part is asked for by numbers beyond all bounds, and by those that would come round to a good one.
func TestOfWrongParts(t *testing.T) {
	wrong := []int{-1, -1970, 100000, 1 << 31, 1 << 32, 1<<32 + 2013, 1 << 62, math.MaxInt64, math.MaxInt64 - 1, math.MinInt64, math.MinInt64 + 1}
	for i := range 6 {
		for _, n := range wrong {
			p := [6]int{2013, 5, 24, 1, 2, 3}
			p[i] = n
			if k, ok := Of(p[0], p[1], p[2], p[3], p[4], p[5]); k != 0 || ok {
				t.Error(p, k, ok)
			}
		}
	}
	for _, p := range [][3]int{{1969, 12, 31}, {10000, 1, 1}, {0, 1, 1}, {2023, 2, 29}, {2100, 2, 29}, {2000, 2, 30}, {2013, 4, 31}, {2013, 0, 1}, {2013, 13, 1}, {2013, 1, 0}, {2013, 1, 32}} {
		if k, ok := Of(p[0], p[1], p[2], 0, 0, 0); k != 0 || ok {
			t.Error(p, k, ok)
		}
	}
}

// 4.2

func TestTexts(t *testing.T) {
	for _, n := range moments() {
		w := unix(n)
		if Basic(n) != w.Format(basicLayout) || Day(n) != w.Format(dayLayout) || Iso(n) != w.Format(isoLayout) || Http(n) != w.Format(httpLayout) {
			t.Error(n, Basic(n), Day(n), Iso(n), Http(n))
		}
	}
}

func TestTextsOfTheChapter(t *testing.T) {
	const n = 1369353600
	for _, c := range []struct{ got, want string }{
		{Basic(n), "20130524T000000Z"},
		{Day(n), "20130524"},
		{Iso(n), "2013-05-24T00:00:00.000Z"},
		{Http(n), "Fri, 24 May 2013 00:00:00 GMT"},
		{Http(0), "Thu, 01 Jan 1970 00:00:00 GMT"},
		{Basic(api.Last), "99991231T235959Z"},
		{Day(api.Last), "99991231"},
		{Iso(api.Last), "9999-12-31T23:59:59.000Z"},
		{Http(api.Last), "Fri, 31 Dec 9999 23:59:59 GMT"},
	} {
		if c.got != c.want {
			t.Error(c.got, c.want)
		}
	}
}

func TestTextsOfNoTime(t *testing.T) {
	for _, n := range noTimes() {
		if Basic(n) != "" || Day(n) != "" || Iso(n) != "" || Http(n) != "" {
			t.Error(n, Basic(n), Day(n), Iso(n), Http(n))
		}
	}
}

// parsed is what a call to read a text answered.
type parsed struct {
	t  int
	ok bool
}

func basicOf(s string) parsed {
	t, ok := ParseBasic(s)
	return parsed{t, ok}
}

func httpOf(s string) parsed {
	t, ok := ParseHttp(s)
	return parsed{t, ok}
}

func midnightOf(s string) parsed {
	t, ok := ParseDay(s)
	return parsed{t, ok}
}

// reader is a call that reads texts, with one of them and the library's layout for them.
type reader struct {
	name, text string
	parse      func(s string) parsed
	layout     string
}

func readers() []reader {
	return []reader{
		{"basic", "20130524T112233Z", basicOf, basicLayout},
		{"http", "Fri, 24 May 2013 11:22:33 GMT", httpOf, httpLayout},
		{"day", "20130524", midnightOf, dayLayout},
	}
}

// byLibrary is what must be answered for s. The layout must give s again, for the library takes any weekday, and more letters and digits than there should be.
func byLibrary(s, layout string) parsed {
	w, err := time.Parse(layout, s)
	if err != nil || w.Format(layout) != s || w.Unix() < 0 || w.Unix() > api.Last {
		return parsed{}
	}
	return parsed{int(w.Unix()), true}
}

func TestParse(t *testing.T) {
	for _, n := range moments() {
		w := unix(n)
		if got := basicOf(w.Format(basicLayout)); got != (parsed{n, true}) {
			t.Error(n, got)
		}
		if got := httpOf(w.Format(httpLayout)); got != (parsed{n, true}) {
			t.Error(n, got)
		}
		if got := midnightOf(w.Format(dayLayout)); got != (parsed{n - n%86400, true}) {
			t.Error(n, got)
		}
	}
}

func TestParseNone(t *testing.T) {
	for _, s := range []string{
		"", "2013", "20130230T000000Z", "20130524T000000", "20130524 000000Z", "20130524t000000Z", "20130524T000000z", "19691231T235959Z", "20130524T000060Z", "20130524T006000Z", "20130524T240000Z",
		"2013052aT000000Z", "20130524T00000aZ", " 0130524T000000Z", "+2013524T000000Z", "20130524T-10000Z", "20130524T+10000Z", "00000101T000000Z", "20130024T000000Z", "20130500T000000Z",
		"20130524T000000ZZ", "020130524T000000Z", "20130524T000000Z ", " 20130524T000000Z", "20130524T000000Z\x00", "2013-05-24T00:00:00.000Z", "20130524", "Fri, 24 May 2013 00:00:00 GMT", "٢٠١٣0524T000000Z",
	} {
		if got := basicOf(s); got != (parsed{}) {
			t.Errorf("%q %v", s, got)
		}
	}
	for _, s := range []string{
		"", "Fri", "Thu, 24 May 2013 00:00:00 GMT", "fri, 24 May 2013 00:00:00 GMT", "FRI, 24 May 2013 00:00:00 GMT", "Fri, 24 may 2013 00:00:00 GMT", "Fri, 24 MAY 2013 00:00:00 GMT", "Fri, 24 ayJ 2013 00:00:00 GMT",
		"Fri, 24 Mai 2013 00:00:00 GMT", "Fri, 24 May 2013 00:00:00 UTC", "Fri, 24 May 2013 00:00:00 gmt", "Fri, 24 May 2013 24:00:00 GMT", "Fri, 24 May 2013 00:60:00 GMT", "Fri, 24 May 2013 00:00:60 GMT",
		"Wed, 31 Dec 1969 23:59:59 GMT", "Sat, 01 Jan 0000 00:00:00 GMT", "Sat, 30 Feb 2013 00:00:00 GMT", "Fri, 4 May 2012 00:00:00 GMT", "Fri,  4 May 2012 00:00:00 GMT", "Fri; 24 May 2013 00:00:00 GMT", "Fri,24 May 2013 00:00:00 GMT ",
		"Fri, 24-May-2013 00:00:00 GMT", "Fri, 24 May 2013 00.00.00 GMT", "Fri, 24 May 2013T00:00:00 GMT", "Fri, 24 May 2013 00:00:00 GMT ", " Fri, 24 May 2013 00:00:00 GMT", "Fri, 24 May 2013 00:00:00", "Fri, 24 May 2013 00:00:00_GMT",
		"Friday, 24-May-13 00:00:00 GMT", "Fri May 24 00:00:00 2013", "Fri, 24 May +013 00:00:00 GMT", "Fri, -4 May 2013 00:00:00 GMT", "20130524T000000Z",
	} {
		if got := httpOf(s); got != (parsed{}) {
			t.Errorf("%q %v", s, got)
		}
	}
	for _, s := range []string{
		"", "2013", "20131301", "2013010", "201301011", "00000101", "19691231", "20130001", "20130100", "20130132", "20130229", "21000229", "20130431", "2013010a", "+2013101", "-2013101", "2013-1-1", "2013 101", " 2013010", "20130524T000000Z", "20130524\n", "٢٠١٣",
	} {
		if got := midnightOf(s); got != (parsed{}) {
			t.Errorf("%q %v", s, got)
		}
	}
}

// TestParseEveryByte puts every byte at every place of a text, and takes and adds one there.
func TestParseEveryByte(t *testing.T) {
	for _, r := range readers() {
		for i := range len(r.text) {
			for c := range 256 {
				one := string([]byte{byte(c)})
				s := r.text[:i] + one + r.text[i+1:]
				if got := r.parse(s); got != byLibrary(s, r.layout) {
					t.Errorf("%s %q: %v", r.name, s, got)
				}
				s = r.text[:i] + one + r.text[i:]
				if got := r.parse(s); got != (parsed{}) {
					t.Errorf("%s %q: %v", r.name, s, got)
				}
			}
			for _, s := range []string{r.text[:i], r.text[i+1:], r.text[:i] + r.text[i+1:]} {
				if got := r.parse(s); got != (parsed{}) {
					t.Errorf("%s %q: %v", r.name, s, got)
				}
			}
		}
	}
}

// TestParseEveryPair puts every pair of digits at every place where a text has two.
func TestParseEveryPair(t *testing.T) {
	two := regexp.MustCompile(`[0-9][0-9]`)
	for _, r := range readers() {
		for _, at := range two.FindAllStringIndex(r.text, -1) {
			for n := range 100 {
				s := r.text[:at[0]] + string([]byte{byte('0' + n/10), byte('0' + n%10)}) + r.text[at[1]:]
				if got := r.parse(s); got != byLibrary(s, r.layout) {
					t.Errorf("%s %q: %v", r.name, s, got)
				}
			}
		}
	}
}

func TestParseHttpNames(t *testing.T) {
	names := strings.Fields("Jan Feb Mar Apr May Jun Jul Aug Sep Oct Nov Dec")
	for i, month := range names {
		for _, weekday := range strings.Fields("Mon Tue Wed Thu Fri Sat Sun Son mon") {
			w := time.Date(2013, time.Month(i+1), 24, 11, 22, 33, 0, time.UTC)
			s := weekday + ", 24 " + month + " 2013 11:22:33 GMT"
			want := parsed{}
			if w.Weekday().String()[:3] == weekday {
				want = parsed{int(w.Unix()), true}
			}
			if got := httpOf(s); got != want {
				t.Error(s, got)
			}
		}
	}
	// Pieces of two months side by side are no month.
	all := strings.Join(names, "")
	for i := range len(all) - 2 {
		for _, weekday := range strings.Fields("Mon Tue Wed Thu Fri Sat Sun") {
			if s := weekday + ", 24 " + all[i:i+3] + " 2013 11:22:33 GMT"; i%3 != 0 && httpOf(s) != (parsed{}) {
				t.Error(s)
			}
		}
	}
}

// 4.3

// TestEveryDay goes through all days there are: there and back by each text, in order, the weekdays going round.
func TestEveryDay(t *testing.T) {
	weekdays := strings.Fields("Thu Fri Sat Sun Mon Tue Wed")
	lastBasic, lastIso := "", ""
	y, m, d := 1970, 1, 1
	for i := range api.Last/86400 + 1 {
		n := i*86400 + i*7919%86400
		cy, cm, cd, h, min, s, ok := Civil(n)
		if cy != y || cm != m || cd != d || h*3600+min*60+s != n%86400 || h > 23 || min > 59 || s > 59 || !ok {
			t.Fatal(n, cy, cm, cd, h, min, s, ok)
		}
		if k, ok := Of(cy, cm, cd, h, min, s); k != n || !ok {
			t.Fatal(n, k, ok)
		}
		basic, day, iso, http := Basic(n), Day(n), Iso(n), Http(n)
		if basicOf(basic) != (parsed{n, true}) || httpOf(http) != (parsed{n, true}) || midnightOf(day) != (parsed{i * 86400, true}) {
			t.Fatal(n, basic, day, http)
		}
		if basic <= lastBasic || iso <= lastIso || http[:3] != weekdays[i%7] {
			t.Fatal(n, lastBasic, basic, lastIso, iso, http)
		}
		lastBasic, lastIso = basic, iso
		y, m, d = nextDay(y, m, d)
	}
	if y != 10000 || m != 1 || d != 1 {
		t.Error(y, m, d)
	}
}

// nextDay is the day behind a date, by a count of its own.
func nextDay(y, m, d int) (int, int, int) {
	lengths := [...]int{31, 28, 31, 30, 31, 30, 31, 31, 30, 31, 30, 31}
	if y%400 == 0 || y%4 == 0 && y%100 != 0 {
		lengths[1] = 29
	}
	switch {
	case d < lengths[m-1]:
		return y, m, d + 1
	case m < 12:
		return y, m + 1, 1
	default:
		return y + 1, 1, 1
	}
}

func TestOrderOfSeconds(t *testing.T) {
	for _, n := range moments() {
		if n < api.Last && (Basic(n) >= Basic(n+1) || Iso(n) >= Iso(n+1)) {
			t.Error(n, Basic(n), Basic(n+1))
		}
	}
}

func TestFormsOfTexts(t *testing.T) {
	for _, c := range []struct {
		tell func(t int) string
		form string
	}{
		{Basic, `^\d{8}T\d{6}Z$`},
		{Day, `^\d{8}$`},
		{Iso, `^\d{4}-\d\d-\d\dT\d\d:\d\d:\d\d\.000Z$`},
		{Http, `^(Mon|Tue|Wed|Thu|Fri|Sat|Sun), \d\d (Jan|Feb|Mar|Apr|May|Jun|Jul|Aug|Sep|Oct|Nov|Dec) \d{4} \d\d:\d\d:\d\d GMT$`},
	} {
		form := regexp.MustCompile(c.form)
		for _, n := range moments() {
			if !form.MatchString(c.tell(n)) {
				t.Error(c.form, c.tell(n))
			}
		}
	}
}

// 4.4

func TestHostileNumbers(t *testing.T) {
	edges := []int{math.MinInt64, math.MinInt64 / 86400, -1, 0, 1, 2, 12, 13, 28, 29, 31, 59, 60, 1970, 9999, 10000, math.MaxInt64 / 86400, math.MaxInt64}
	for _, a := range edges {
		Civil(a)
		Http(a)
		for _, b := range edges {
			for _, c := range edges {
				for _, e := range edges {
					n, ok := Of(a, b, c, e, b, c)
					if y, m, d, h, min, s, is := Civil(n); ok && (!is || y != a || m != b || d != c || h != e || min != b || s != c) || !ok && n != 0 {
						t.Fatal(a, b, c, e, n, ok)
					}
				}
			}
		}
	}
}

func TestHostileTexts(t *testing.T) {
	for _, r := range readers() {
		for n := range 40 {
			for _, fill := range []string{"\x00", "0", "9", " ", ":", "-", "Z", "a", "\xFF", "\u0660", "\uFFFD"} {
				s := strings.Repeat(fill, n)
				if got := r.parse(s); got != byLibrary(s, r.layout) {
					t.Errorf("%s %q: %v", r.name, s, got)
				}
			}
		}
		if got := r.parse(strings.Repeat(r.text, 100000)); got != (parsed{}) {
			t.Error(r.name, got)
		}
	}
}

func FuzzParse(f *testing.F) {
	for _, r := range readers() {
		f.Add(r.text)
	}
	f.Add("Thu, 24 May 2013 00:00:00 GMT")
	f.Add("20130230T000000Z")
	f.Fuzz(func(t *testing.T, s string) {
		for _, r := range readers() {
			if got := r.parse(s); got != byLibrary(s, r.layout) {
				t.Errorf("%s %q: %v", r.name, s, got)
			}
		}
	})
}
