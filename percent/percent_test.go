package percent_test

import (
	"fmt"
	"strings"
	"testing"

	"shibboleth/api"
	"shibboleth/octets"
	"shibboleth/percent"
)

// lower and upper are the hex digits by their values.
const (
	lower = "0123456789abcdef"
	upper = "0123456789ABCDEF"
)

// worth is the value of a hex digit by these rows, or -1.
func worth(c byte) int {
	return max(strings.IndexByte(lower, c), strings.IndexByte(upper, c))
}

// piece is a text cut at its places of %, each with what stands behind it: say is what its escape says, if it begins one.
type piece struct {
	escape bool
	say    byte
	text   string
}

// pieces cuts a text: what stands ahead of the first %, and then a piece for each %.
func pieces(s string) (string, []piece) {
	parts := strings.Split(s, "%")
	var cut []piece
	for _, p := range parts[1:] {
		if len(p) >= 2 && worth(p[0]) >= 0 && worth(p[1]) >= 0 {
			cut = append(cut, piece{true, byte(worth(p[0])*16 + worth(p[1])), p})
		} else {
			cut = append(cut, piece{text: p})
		}
	}
	return parts[0], cut
}

// valid, decode, encode and upcase say by the chapter's words what the calls of like names must answer.
func valid(s string) bool {
	_, ok := decode(s)
	return ok
}

func decode(s string) (string, bool) {
	text, cut := pieces(s)
	for _, p := range cut {
		if !p.escape {
			return "", false
		}
		text += string([]byte{p.say}) + p.text[2:]
	}
	return text, true
}

func encode(s string, keep api.Set) string {
	text := ""
	for _, c := range []byte(s) {
		if keep[c/64]>>(c%64)&1 == 0 || c == '%' {
			text += fmt.Sprintf("%%%02X", c)
		} else {
			text += string([]byte{c})
		}
	}
	return text
}

func upcase(s string) string {
	text, cut := pieces(s)
	for _, p := range cut {
		if p.escape {
			p.text = fmt.Sprintf("%02X", p.say) + p.text[2:]
		}
		text += "%" + p.text
	}
	return text
}

// short are all texts of at most n bytes of these.
func short(bs string, n int) []string {
	texts := []string{""}
	begin := 0
	for range n {
		end := len(texts)
		for _, t := range texts[begin:end] {
			for i := range len(bs) {
				texts = append(texts, t+bs[i:i+1])
			}
		}
		begin = end
	}
	return texts
}

// all is a text of all bytes, in their row.
func all() string {
	bs := make([]byte, 256)
	for c := range bs {
		bs[c] = byte(c)
	}
	return string(bs)
}

// escapes is a text of the escapes of all bytes, with these digits.
func escapes(digits string) string {
	var text strings.Builder
	for c := range 256 {
		text.WriteString("%" + digits[c/16:c/16+1] + digits[c%16:c%16+1])
	}
	return text.String()
}

// texts are of many kinds: all short ones of the bytes that matter, each byte in each place of an escape, long ones.
func texts() []string {
	list := append(short("%4aFg", 6), short("%25", 7)...)
	for c := range 256 {
		b := string([]byte{byte(c)})
		list = append(list, b, "%"+b, "%"+b+"1", "%1"+b, "%41"+b, b+"%41", "x%"+b+"fy", "x%f"+b+"y", "%"+b+b)
	}
	list = append(list, all(), all()+"41", escapes(lower), escapes(upper), escapes(lower)+"%", escapes(upper)+"%f",
		"%C3%A9", "%c3é%a9", "\xff\xfe%ff\x00", "%\u0664\u0661", "%+1%-1", "%0x41", "% 1", "http://a%2fb/?%3d#%e2%82%ac")
	for _, s := range []string{"%", "%4", "%aF", "a", "%25", "%%41", "ab%2541", "\xff"} {
		list = append(list, strings.Repeat(s, 5000))
	}
	return list
}

// keeps are sets that Encode may keep: none, all, with and without the % and the hex digits.
func keeps() []api.Set {
	letters, hex := octets.Range('a', 'z'), octets.Of([]byte(lower+upper)...)
	return []api.Set{
		{},
		octets.All(),
		octets.Of('%'),
		octets.Not(octets.Of('%')),
		letters,
		octets.Or(letters, octets.Of('%')),
		hex,
		octets.Or(hex, octets.Of('%')),
		octets.Not(hex),
		octets.Range(0, 127),
		octets.Range(128, 255),
		{0x5555555555555555, 0xaaaaaaaaaaaaaaaa, 0x3333333333333333, 0xf0f0f0f0f0f0f0f0},
	}
}

// P3.1: Hex, Value and Digits, of each byte.
func TestDigits(t *testing.T) {
	set := percent.Digits()
	for c := range 256 {
		want, is := uint8(0), false
		if n := worth(byte(c)); n >= 0 {
			want, is = uint8(n), true
		}
		if v, ok := percent.Value(byte(c)); v != want || ok != is {
			t.Errorf("Value(%d): %d, %v", c, v, ok)
		}
		if percent.Hex(byte(c)) != is {
			t.Errorf("Hex(%d) is not %v", c, is)
		}
		if octets.Has(set, byte(c)) != is {
			t.Errorf("Digits at %d is not %v", c, is)
		}
	}
	if octets.Count(set) != 22 {
		t.Errorf("Digits: %d", octets.Count(set))
	}
}

// P3.1: the bytes beside the hex digits, and those that have one's bits but the highest, are none.
func TestNoDigits(t *testing.T) {
	for _, c := range []byte{0, '/', ':', '@', 'G', 'Z', '`', 'g', 'z', '%', ' ', '0' + 128, 'a' + 128, 'F' + 128, 255} {
		if v, ok := percent.Value(c); v != 0 || ok || percent.Hex(c) || octets.Has(percent.Digits(), c) {
			t.Errorf("%q is a hex digit: %d, %v", c, v, ok)
		}
	}
}

// P3.1: Valid, of ordinary texts and at the edges.
func TestValid(t *testing.T) {
	for _, s := range []string{"", "a", "%41", "%25%41", "%2541", "%25zz", "4%1f1", "%fF%Ff", "%00", "\xff%ff\xff", "%255", "g%aa g"} {
		if !percent.Valid(s) {
			t.Errorf("%q is not valid", s)
		}
	}
	for _, s := range []string{"%", "%4", "a%", "a%4", "%%", "%%41", "%4%41", "%41%", "%41%4", "%g1", "%1g", "%41%zz", "%25%", "% 41", "%\xb41"} {
		if percent.Valid(s) {
			t.Errorf("%q is valid", s)
		}
	}
	for _, s := range texts() {
		if percent.Valid(s) != valid(s) {
			t.Errorf("Valid(%.60q) is not %v", s, valid(s))
		}
	}
}

// P3.2: Decode, of ordinary texts, and nothing of what is not valid.
func TestDecode(t *testing.T) {
	cases := map[string]string{
		"": "", "abc": "abc", "%41": "A", "%61%62c": "abc", "a%20b": "a b", "%00": "\x00", "%fF": "\xff", "%Ff%fF": "\xff\xff",
		"%25": "%", "%2541": "%41", "%252541": "%2541", "%25%34%31": "%41", "%25zz": "%zz", "+": "+", "%c3%a9": "é", "\xff": "\xff",
	}
	for s, want := range cases {
		if got, ok := percent.Decode(s); got != want || !ok {
			t.Errorf("Decode(%q): %q, %v", s, got, ok)
		}
	}
	for _, s := range []string{"%", "%4", "abc%", "%41%4", "%41abc%g1", "%%41", "%4%41", "%zz", "%41%"} {
		if got, ok := percent.Decode(s); got != "" || ok {
			t.Errorf("Decode(%q): %q, %v", s, got, ok)
		}
	}
	for _, s := range texts() {
		want, is := decode(s)
		if got, ok := percent.Decode(s); got != want || ok != is {
			t.Errorf("Decode(%.60q): %.60q, %v", s, got, ok)
		}
	}
}

// P3.2: Decode brings back each byte, with digits of either kind.
func TestDecodeOfEachByte(t *testing.T) {
	for _, s := range []string{escapes(lower), escapes(upper)} {
		if got, ok := percent.Decode(s); got != all() || !ok {
			t.Errorf("Decode(%.60q ..): %q, %v", s, got, ok)
		}
	}
}

// P3.2: Encode, of ordinary texts and all sets; what is an escape already is none to it.
func TestEncode(t *testing.T) {
	letters := octets.Range('a', 'z')
	cases := []struct {
		s    string
		keep api.Set
		want string
	}{
		{"", api.Set{}, ""},
		{"", octets.All(), ""},
		{"ab", api.Set{}, "%61%62"},
		{"ab", letters, "ab"},
		{"aBc", letters, "a%42c"},
		{"%", octets.All(), "%25"},
		{"%41", octets.All(), "%2541"},
		{"%41", octets.Of('%'), "%25%34%31"},
		{"%zz", octets.Not(octets.Of('%')), "%25zz"},
		{"\x00\n\xab\xff", letters, "%00%0A%AB%FF"},
		{"\x00\n\xab\xff", octets.All(), "\x00\n\xab\xff"},
		{"é", octets.Range(0, 127), "%C3%A9"},
	}
	for _, c := range cases {
		if got := percent.Encode(c.s, c.keep); got != c.want {
			t.Errorf("Encode(%q, %x): %q, not %q", c.s, c.keep, got, c.want)
		}
	}
	for _, keep := range keeps() {
		for _, s := range texts() {
			if len(s) > 1000 {
				continue // encode is slow with these
			}
			if got, want := percent.Encode(s, keep), encode(s, keep); got != want {
				t.Fatalf("Encode(%q, %x): %q, not %q", s, keep, got, want)
			}
		}
	}
	if percent.Encode(all(), api.Set{}) != escapes(upper) {
		t.Errorf("Encode of all bytes: %q", percent.Encode(all(), api.Set{}))
	}
}

// P3.2: Upper, which leaves what is no escape.
func TestUpper(t *testing.T) {
	cases := map[string]string{
		"": "", "abc": "abc", "%ab": "%AB", "%aBcd": "%ABcd", "ab%cdef": "ab%CDef", "%1a%a1": "%1A%A1", "%AB": "%AB", "%12": "%12",
		"%": "%", "%a": "%a", "%ag": "%ag", "%ga": "%ga", "%%": "%%", "%%ab": "%%AB", "%a%ab": "%a%AB", "%ab%a": "%AB%a", "%ab%": "%AB%",
		"%zz%ff": "%zz%FF", "%25ff": "%25ff", "%61": "%61", "\xff%ff": "\xff%FF", "é%c3": "é%C3", "% ff": "% ff",
	}
	for s, want := range cases {
		if got := percent.Upper(s); got != want {
			t.Errorf("Upper(%q): %q, not %q", s, got, want)
		}
	}
	for _, s := range texts() {
		if got, want := percent.Upper(s), upcase(s); got != want {
			t.Errorf("Upper(%.60q): %.60q, not %.60q", s, got, want)
		}
	}
	if percent.Upper(escapes(lower)) != escapes(upper) {
		t.Errorf("Upper of all escapes: %q", percent.Upper(escapes(lower)))
	}
}

// P3.3: what is encoded is valid, and decoded again, whatever was kept.
func TestEncodedIsDecoded(t *testing.T) {
	for _, keep := range keeps() {
		for _, s := range texts() {
			code := percent.Encode(s, keep)
			if !percent.Valid(code) {
				t.Fatalf("Encode(%.60q, %x) is not valid: %.60q", s, keep, code)
			}
			if back, ok := percent.Decode(code); back != s || !ok {
				t.Fatalf("Encode(%.60q, %x), decoded: %.60q, %v", s, keep, back, ok)
			}
			if percent.Upper(code) != code {
				t.Fatalf("Encode(%.60q, %x) has digits a to f: %.60q", s, keep, code)
			}
		}
	}
}

// P3.3: a valid text's Upper is valid and decodes to the same; each text's Upper is its own Upper, and as valid as the text.
func TestUpperOfUpper(t *testing.T) {
	for _, s := range texts() {
		up := percent.Upper(s)
		if percent.Upper(up) != up {
			t.Errorf("Upper(%.60q) is not its own Upper", s)
		}
		if percent.Valid(up) != percent.Valid(s) {
			t.Errorf("Upper(%.60q) is valid: %v", s, percent.Valid(up))
		}
		before, _ := percent.Decode(s)
		after, _ := percent.Decode(up)
		if before != after {
			t.Errorf("Upper(%.60q) decodes to %.60q, not to %.60q", s, after, before)
		}
	}
}

// P3.3: escapes lie side by side: what two texts are, one behind the other, they are when joined, if the first one is valid.
func TestSideBySide(t *testing.T) {
	parts := append(short("%4f", 4), "%25", "%41%25", "é", "%g1", "g1", "41")
	for _, a := range parts {
		first, ok := percent.Decode(a)
		if !ok {
			continue
		}
		for _, b := range parts {
			second, is := percent.Decode(b)
			joined, both := percent.Decode(a + b)
			if both != is || both && joined != first+second || percent.Valid(a+b) != is {
				t.Errorf("%q and %q, joined: %q, %v", a, b, joined, both)
			}
			if percent.Upper(a+b) != percent.Upper(a)+percent.Upper(b) {
				t.Errorf("Upper of %q and %q, joined: %q", a, b, percent.Upper(a+b))
			}
		}
	}
}

// R3, R4: what was answered earlier stays as it was, and is answered again.
func TestAnswersStay(t *testing.T) {
	s := "a%2fb"
	up, code := percent.Upper(s), percent.Encode(s, percent.Digits())
	text, _ := percent.Decode(s)
	percent.Upper("%ff%ff")
	percent.Encode("zzzzz", api.Set{})
	percent.Decode("%7a%7a")
	if s != "a%2fb" || up != "a%2Fb" || code != "a%252fb" || text != "a/b" {
		t.Errorf("%q, %q, %q, %q", s, up, code, text)
	}
	again, _ := percent.Decode(s)
	if percent.Upper(s) != up || percent.Encode(s, percent.Digits()) != code || again != text {
		t.Errorf("another answer the second time")
	}
	set := percent.Digits()
	set[0] = 0
	if octets.Count(percent.Digits()) != 22 {
		t.Errorf("the set of digits has changed")
	}
}

// The chapter's table of examples.
func TestExamples(t *testing.T) {
	if v, ok := percent.Value('f'); v != 15 || !ok {
		t.Errorf("Value('f'): %d, %v", v, ok)
	}
	if v, ok := percent.Value('F'); v != 15 || !ok {
		t.Errorf("Value('F'): %d, %v", v, ok)
	}
	if v, ok := percent.Value('g'); v != 0 || ok {
		t.Errorf("Value('g'): %d, %v", v, ok)
	}
	if percent.Valid("%4") || percent.Valid("%41%zz") || !percent.Valid("%25%41") {
		t.Errorf("Valid: %v, %v, %v", percent.Valid("%4"), percent.Valid("%41%zz"), percent.Valid("%25%41"))
	}
	if s, ok := percent.Decode("%41b%2541"); s != "Ab%41" || !ok {
		t.Errorf("Decode(%%41b%%2541): %q, %v", s, ok)
	}
	if s, ok := percent.Decode("%"); s != "" || ok {
		t.Errorf("Decode(%%): %q, %v", s, ok)
	}
	if s := percent.Encode("a b%", octets.Range('a', 'z')); s != "a%20b%25" {
		t.Errorf("Encode(a b%%): %q", s)
	}
	if s := percent.Encode("é", octets.All()); s != "é" {
		t.Errorf("Encode(é): %q", s)
	}
	if s := percent.Upper("%c3%aF%zz%"); s != "%C3%AF%zz%" {
		t.Errorf("Upper(%%c3%%aF%%zz%%): %q", s)
	}
}
