package value_test

import (
	"regexp"
	"slices"
	"strconv"
	"strings"

	"sieve/api"
	"sieve/utf"
)

// What the calls answer, by the chapter's words.

var (
	notPlain   = regexp.MustCompile(`[\x00-\x08\x0b\x0e-\x1f\x7f-\x{9f}\x{fdd0}-\x{fdef}\x{fffe}\x{ffff}\x{1fffe}\x{1ffff}\x{10fffe}\x{10ffff}]`)
	word       = regexp.MustCompile(`[^\t\n\f ]+`)
	nine       = regexp.MustCompile(`^0*(0|[1-9][0-9]*)$`)
	percents   = regexp.MustCompile(`^([^%]*)(%?)$`)
	named      = regexp.MustCompile(`^[A-Za-z][A-Za-z0-9_.:-]{0,99}$`)
	language   = regexp.MustCompile(`^[A-Za-z]{1,8}(-[A-Za-z0-9]{1,8})*$`)
	stripped   = regexp.MustCompile(`^[\x00-\x20]+|[\x00-\x20]+$|[\t\n\r]`)
	schemed    = regexp.MustCompile(`^([A-Za-z][A-Za-z0-9+.-]*):`)
	allowable  = regexp.MustCompile(`^[a-z][a-z0-9+.-]{0,99}$`)
	mayNeverBe = regexp.MustCompile(`^(javascript|data|vbscript|blob|file|filesystem|about)$`)
	day        = regexp.MustCompile(`^([0-9]{4})-([0-9]{2})-([0-9]{2})$`)
	color      = regexp.MustCompile(`^#([0-9A-Fa-f]{6}|[0-9A-Fa-f]{3})$`)
	capital    = regexp.MustCompile(`[A-Z]`)
)

// modelPlain: a text as it is read.
func modelPlain(s string) string {
	return notPlain.ReplaceAllString(strings.ReplaceAll(utf.Mend(s), "\r", "\n"), "\ufffd")
}

func modelTokens(v string) []string { return word.FindAllString(modelPlain(v), -1) }

func modelNumber(v string) (string, bool) {
	found := nine.FindStringSubmatch(v)
	if found == nil || len(v) > 9 {
		return "", false
	}
	return found[1], true
}

func modelSmall(s string) string {
	return capital.ReplaceAllStringFunc(s, strings.ToLower)
}

func modelAllowed(stripped string, schemes []string, relative bool) bool {
	for _, s := range schemes {
		if !allowable.MatchString(s) || mayNeverBe.MatchString(s) {
			return false
		}
	}
	found := schemed.FindStringSubmatch(stripped)
	if found == nil {
		return relative
	}
	return slices.Contains(schemes, strings.ToLower(found[1]))
}

// modelTidy: by the kind, as the chapter lists them; a value that may be is told with a true.
func modelTidy(r api.Rule, schemes []string, relative bool, v string) (string, bool) {
	v = modelPlain(v)
	may := false
	switch r.Kind {
	case api.ValueAny:
		may = true
	case api.ValueFlag:
		v, may = "", true
	case api.ValueTokens:
		v, may = strings.Join(modelTokens(v), " "), true
	case api.ValueName:
		may = named.MatchString(v)
	case api.ValueNumber:
		v, may = modelNumber(v)
	case api.ValueLength:
		if found := percents.FindStringSubmatch(v); found != nil {
			v, may = modelNumber(found[1])
			v += found[2]
		}
	case api.ValueLink:
		v = stripped.ReplaceAllString(v, "")
		may = modelAllowed(v, schemes, relative)
	case api.ValueLang:
		may = language.MatchString(v) && len(v) <= 100
	case api.ValueOneOf:
		v = modelSmall(v)
		may = slices.ContainsFunc(r.Words, func(w string) bool { return modelSmall(utf.Mend(w)) == v })
	}
	if !may {
		v = ""
	}
	return v, may
}

// modelDate: a day of the calendar, by its table of months.
func modelDate(v string) (int, int, int, bool) {
	found := day.FindStringSubmatch(v)
	if found == nil {
		return 0, 0, 0, false
	}
	y, _ := strconv.Atoi(found[1])
	m, _ := strconv.Atoi(found[2])
	d, _ := strconv.Atoi(found[3])
	ends := []int{0, 31, 28, 31, 30, 31, 30, 31, 31, 30, 31, 30, 31}
	if y%400 == 0 || y%4 == 0 && y%100 > 0 {
		ends[2]++
	}
	if y == 0 || m >= len(ends) || d == 0 || d > ends[m] {
		return 0, 0, 0, false
	}
	return y, m, d, true
}

func modelColor(v string) (uint32, bool) {
	found := color.FindStringSubmatch(v)
	if found == nil {
		return 0, false
	}
	digits := found[1]
	if len(digits) == 3 {
		digits = digits[:1] + digits[:1] + digits[1:2] + digits[1:2] + digits[2:] + digits[2:]
	}
	n, _ := strconv.ParseUint(digits, 16, 32)
	return uint32(n), true
}

// kinds: all that there are.
var kinds = []api.ValueKind{api.ValueAny, api.ValueTokens, api.ValueName, api.ValueNumber, api.ValueLength, api.ValueLink, api.ValueLang, api.ValueOneOf, api.ValueFlag}

// texts tells all texts of up to so many parts.
func texts(most int, parts []string, tell func(s string)) {
	var grow func(s string, left int)
	grow = func(s string, left int) {
		tell(s)
		if left == 0 {
			return
		}
		for _, p := range parts {
			grow(s+p, left-1)
		}
	}
	grow("", most)
}

// signs: what values are told apart by, what is not plain, and bytes that are no UTF-8.
var signs = []string{"a", "Z", "0", "7", "-", "_", ".", ":", "%", "#", "/", ",", "+", " ", "\t", "\n", "\f", "\r", "\x00", "\x0b", "\u0085", "\ufffe", "é", "\ufffd", "\xff", "\xe2\x82"}

// broken: bytes that are no UTF-8, and what they are, mended.
var broken = [][2]string{
	{"\xff", "\ufffd"}, {"\x80", "\ufffd"}, {"\xc3", "\ufffd"}, {"\xe2\x82", "\ufffd"}, {"\xf0\x9f\x98", "\ufffd"}, {"\xc0\xaf", "\ufffd\ufffd"}, {"\xed\xa0\x80", "\ufffd\ufffd\ufffd"}, {"\xf4\x90\x80\x80", "\ufffd\ufffd\ufffd\ufffd"},
}

// unplain: runes that are not plain, and what stands for them.
var unplain = [][2]string{
	{"\r", "\n"}, {"\r\n", "\n\n"}, {"\x00", "\ufffd"}, {"\x01", "\ufffd"}, {"\x08", "\ufffd"}, {"\x0b", "\ufffd"}, {"\x0e", "\ufffd"}, {"\x1f", "\ufffd"}, {"\x7f", "\ufffd"}, {"\u0080", "\ufffd"}, {"\u0085", "\ufffd"}, {"\u009f", "\ufffd"},
	{"\ufdd0", "\ufffd"}, {"\ufdef", "\ufffd"}, {"\ufffe", "\ufffd"}, {"\uffff", "\ufffd"}, {"\U0001fffe", "\ufffd"}, {"\U0010ffff", "\ufffd"},
}

// everywhere tells texts with each byte alone, at the beginning, in the middle, at the end, and twice.
func everywhere(tell func(s string)) {
	for c := range 256 {
		b := string([]byte{byte(c)})
		for _, s := range []string{b, b + b, b + "a", "a" + b, "a" + b + "c", "a" + b + b + "c", b + "1", "1" + b, "1" + b + "2", "ab-" + b, b + "-ab", "a-" + b + "-b", "12" + b + "%", "12%" + b, "a:" + b, b + "a:b", "/" + b, "é" + b, b + "é",
			"#12" + b, "#" + b + "23", "#" + b + "23456", "#12345" + b, b + "123456", "200" + b + "-01-02", "2000-0" + b + "-02", "2000-01-0" + b, "2000" + b + "01-02", "2000-01" + b + "02", b + "000-01-02"} {
			tell(s)
		}
	}
}
