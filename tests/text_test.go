package tests

import (
	"math"
	"math/big"
	"regexp"
	"slices"
	"strings"
	"testing"

	"loop.example/g00860/impl"
)

// stringsUpTo returns all strings of at most n bytes that consist of the given bytes.
func stringsUpTo(n int, bytes string) []string {
	all := []string{""}
	last := all
	for range n {
		var next []string
		for _, s := range last {
			for i := range len(bytes) {
				next = append(next, s+bytes[i:i+1])
			}
		}
		all = append(all, next...)
		last = next
	}
	return all
}

func TestP9FormatInt(t *testing.T) {
	for _, c := range []struct {
		n    int
		want string
	}{
		{0, "0"}, {7, "7"}, {-7, "-7"}, {10, "10"}, {-100, "-100"}, {1234567890, "1234567890"},
		{math.MaxInt, "9223372036854775807"}, {math.MinInt, "-9223372036854775808"},
	} {
		if got := impl.FormatInt(c.n); got != c.want {
			t.Errorf("FormatInt(%d) = %q, want %q", c.n, got, c.want)
		}
	}
}

func TestP1IntegersAreRecovered(t *testing.T) {
	check := func(n int) {
		if got, ok := impl.ParseInt(impl.FormatInt(n)); got != n || !ok {
			t.Errorf("ParseInt(FormatInt(%d)) = %d, %t", n, got, ok)
		}
	}
	for i := range 3000 {
		check(i - 1500)
		check(math.MinInt + i)
		check(math.MaxInt - i)
	}
	for i := range 63 {
		check(1 << i)
		check(-1 << i)
	}
}

func TestP1StringsAreRecovered(t *testing.T) {
	for _, s := range stringsUpTo(5, "a,\xc3\xa9") {
		if got := impl.Join(impl.SplitAny(s, ","), ","); got != s {
			t.Errorf("Join(SplitAny(%q)) = %q", s, got)
		}
	}
	for _, s := range stringsUpTo(5, "a\n\r\xff") {
		lines := impl.SplitLines(s)
		text := impl.Join(lines, "\n")
		if len(lines) > 0 && strings.HasSuffix(s, "\n") {
			text += "\n"
		}
		if text != s {
			t.Errorf("SplitLines(%q) = %q", s, lines)
		}
	}
}

func TestP9ParseIntRange(t *testing.T) {
	for _, c := range []struct {
		s    string
		want int
		ok   bool
	}{
		{"0", 0, true}, {"42", 42, true}, {"-42", -42, true},
		{"9223372036854775807", math.MaxInt, true}, {"-9223372036854775808", math.MinInt, true},
		{"9223372036854775808", 0, false}, {"-9223372036854775809", 0, false},
		{"18446744073709551616", 0, false}, {"-18446744073709551617", 0, false},
		{"99999999999999999999999999", 0, false}, {strings.Repeat("1", 5000), 0, false},
		{"09223372036854775807", 0, false}, {"-09223372036854775808", 0, false},
	} {
		if got, ok := impl.ParseInt(c.s); got != c.want || ok != c.ok {
			t.Errorf("ParseInt(%q) = %d, %t, want %d, %t", c.s, got, ok, c.want, c.ok)
		}
	}
}

func TestP9ParseIntInvalid(t *testing.T) {
	for _, s := range []string{
		"", "-", "+", "--1", "-0", "+0", "+5", "00", "07", "-07", "-00", "5-", " 5", "5 ", "5\n", "\x005", "5\x00",
		"1.0", "1e3", "0x1f", "1_000", "1,000", "a", "12a", "\xff", "5\xff", "é", "٣", "５", "−5",
	} {
		if got, ok := impl.ParseInt(s); got != 0 || ok {
			t.Errorf("ParseInt(%q) = %d, %t, want 0, false", s, got, ok)
		}
	}
}

func TestP9ParseIntShortStrings(t *testing.T) {
	written := regexp.MustCompile(`\A(0|-?[1-9][0-9]*)\z`)
	for _, s := range stringsUpTo(4, "019-+_ x\xb5") {
		want := 0
		ok := written.MatchString(s)
		if ok {
			n, _ := new(big.Int).SetString(s, 10)
			want = int(n.Int64())
		}
		if got, gotOk := impl.ParseInt(s); got != want || gotOk != ok {
			t.Errorf("ParseInt(%q) = %d, %t, want %d, %t", s, got, gotOk, want, ok)
		}
	}
}

func TestP9IsDigits(t *testing.T) {
	for _, s := range []string{"0", "9", "0123456789", "007", strings.Repeat("5", 3000)} {
		if !impl.IsDigits(s) {
			t.Errorf("IsDigits(%q) is false", s)
		}
	}
	for _, s := range []string{"", "-", "-1", "+1", " 1", "1 ", "1\n", "1a", "a1", "1.", "12\x00", "\xff", "1\xff", "1\xb1", "é", "٣", "５", "1٣"} {
		if impl.IsDigits(s) {
			t.Errorf("IsDigits(%q) is true", s)
		}
	}
	for b := range 256 {
		s := string([]byte{byte(b)})
		if got, want := impl.IsDigits(s), b >= 48 && b <= 57; got != want || impl.IsDigits("0"+s) != want || impl.IsDigits(s+"0") != want {
			t.Errorf("IsDigits with the byte %d is not %t", b, want)
		}
	}
}

func TestP9IsName(t *testing.T) {
	for _, s := range []string{"a", "z", "a0", "z9", "x1", "abc", "a1b2c3", "abcdefgh", "z0123456"} {
		if !impl.IsName(s) {
			t.Errorf("IsName(%q) is false", s)
		}
	}
	for _, s := range []string{
		"", "1", "1x", "0abc", "A", "aB", "_", "a_", "a-b", "a b", " a", "a ", "a\n", "abcdefghi", "z01234567",
		strings.Repeat("a", 1000), "é", "aé", "a\xff", "\xffa", "a\x00", "ａ", "a٣", "abcdefg\xc3", "абв",
	} {
		if impl.IsName(s) {
			t.Errorf("IsName(%q) is true", s)
		}
	}
	for b := range 256 {
		s := string([]byte{byte(b)})
		letter := b >= 'a' && b <= 'z'
		digit := b >= '0' && b <= '9'
		if impl.IsName(s) != letter || impl.IsName(s+"a") != letter || impl.IsName("a"+s) != (letter || digit) {
			t.Errorf("IsName with the byte %d is wrong", b)
		}
	}
}

func TestP9SplitAny(t *testing.T) {
	for _, c := range []struct {
		s, by string
		want  []string
	}{
		{"a,b c", ", ", []string{"a", "b", "c"}},
		{"", "", []string{""}},
		{"", ",", []string{""}},
		{"abc", "", []string{"abc"}},
		{"abc", ",", []string{"abc"}},
		{",", ",", []string{"", ""}},
		{",,", ",,", []string{"", "", ""}},
		{",a,", ",", []string{"", "a", ""}},
		{"a, b", ", ", []string{"a", "", "b"}},
		{"a\x00b", "\x00", []string{"a", "b"}},
		{"a\xffb", "\xff", []string{"a", "b"}},
		// The bytes of é are c3 a9, those of è are c3 a8: only bytes count.
		{"xéy", "é", []string{"x", "", "y"}},
		{"xéy", "\xa9", []string{"x\xc3", "y"}},
		{"xèy", "é", []string{"x", "\xa8y"}},
		{"x\ufffdy", "\xff", []string{"x\ufffdy"}},
		{"x\xffy", "\ufffd", []string{"x\xffy"}},
	} {
		if got := impl.SplitAny(c.s, c.by); !slices.Equal(got, c.want) {
			t.Errorf("SplitAny(%q, %q) = %q, want %q", c.s, c.by, got, c.want)
		}
	}
}

func TestP9SplitAnyCounts(t *testing.T) {
	for _, s := range stringsUpTo(5, "a,\xc3\xa9") {
		for _, by := range []string{"", ",", "\xa9", "é", "a,\xc3\xa9"} {
			count := 0
			for i := range len(s) {
				if strings.IndexByte(by, s[i]) >= 0 {
					count++
				}
			}
			got := impl.SplitAny(s, by)
			if len(got) != count+1 || len(impl.Join(got, "")) != len(s)-count {
				t.Errorf("SplitAny(%q, %q) = %q with %d bytes to split at", s, by, got, count)
			}
		}
	}
}

func TestP9SplitLines(t *testing.T) {
	for _, c := range []struct {
		s    string
		want []string
	}{
		{"a\nb\n", []string{"a", "b"}},
		{"a\nb", []string{"a", "b"}},
		{"", nil},
		{"a", []string{"a"}},
		{"\n", []string{""}},
		{"\n\n", []string{"", ""}},
		{"a\n\n", []string{"a", ""}},
		{"\na", []string{"", "a"}},
		{"a\r\nb\r", []string{"a\r", "b\r"}},
		{"a\n ", []string{"a", " "}},
		{"\xff\n\xc3", []string{"\xff", "\xc3"}},
		{"a\u2028b\u0085c\vd\fe", []string{"a\u2028b\u0085c\vd\fe"}},
	} {
		if got := impl.SplitLines(c.s); !slices.Equal(got, c.want) {
			t.Errorf("SplitLines(%q) = %q, want %q", c.s, got, c.want)
		}
	}
}

func TestP9Join(t *testing.T) {
	for _, c := range []struct {
		l    []string
		by   string
		want string
	}{
		{nil, "", ""}, {nil, ",", ""}, {[]string{}, ",", ""},
		{[]string{"a"}, ",", "a"}, {[]string{""}, ",", ""},
		{[]string{"", ""}, ",", ","}, {[]string{"a", "b", "c"}, ", ", "a, b, c"},
		{[]string{"a", "", "b"}, "-", "a--b"}, {[]string{"a", "b"}, "", "ab"},
		{[]string{"\xc3", "\xa9"}, "\xff", "\xc3\xff\xa9"}, {[]string{"\xc3", "\xa9"}, "", "é"},
	} {
		if got := impl.Join(c.l, c.by); got != c.want {
			t.Errorf("Join(%q, %q) = %q, want %q", c.l, c.by, got, c.want)
		}
	}
}

func TestP9PadZeros(t *testing.T) {
	for _, c := range []struct {
		s    string
		n    int
		want string
	}{
		{"7", 3, "007"}, {"", 2, "00"}, {"", 0, ""}, {"", 1, "0"}, {"", -1, ""},
		{"123", 3, "123"}, {"123", 2, "123"}, {"123", 4, "0123"}, {"123", 0, "123"}, {"123", -5, "123"},
		{"123", math.MinInt, "123"}, {"123", math.MaxInt, "123"},
		{"-5", 4, "00-5"}, {"é", 3, "0é"}, {"é", 2, "é"}, {"\xff", 2, "0\xff"},
		{"7", 1999, strings.Repeat("0", 1998) + "7"}, {"7", 2000, strings.Repeat("0", 1999) + "7"},
		{"7", 2001, "7"}, {"", 2000, strings.Repeat("0", 2000)}, {"", 2001, ""}, {"7", 1000000, "7"},
		{strings.Repeat("x", 1999), 2000, "0" + strings.Repeat("x", 1999)},
		{strings.Repeat("x", 2000), 2000, strings.Repeat("x", 2000)},
		{strings.Repeat("x", 2001), 2000, strings.Repeat("x", 2001)},
		{strings.Repeat("x", 2001), 2002, strings.Repeat("x", 2001)},
	} {
		if got := impl.PadZeros(c.s, c.n); got != c.want {
			t.Errorf("PadZeros(%q, %d) = %q, want %q", c.s, c.n, got, c.want)
		}
	}
}

func TestP9ArgumentsStay(t *testing.T) {
	whole := []string{"a", "b", "spare", "room"}
	if got := impl.Join(whole[:2], ","); got != "a,b" {
		t.Errorf("Join = %q", got)
	}
	if !slices.Equal(whole, []string{"a", "b", "spare", "room"}) {
		t.Errorf("Join has changed its list or the capacity behind it: %q", whole)
	}
}

func TestP9ResultsAreNew(t *testing.T) {
	for label, split := range map[string]func() []string{
		"SplitAny":   func() []string { return impl.SplitAny("a,b,c", ",") },
		"SplitLines": func() []string { return impl.SplitLines("a\nb\nc\n") },
	} {
		first := split()
		clear(first[:cap(first)])
		if second := split(); !slices.Equal(second, []string{"a", "b", "c"}) {
			t.Errorf("%s returns memory of an earlier call: %q", label, second)
		}
	}
}
