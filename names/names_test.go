package names_test

import (
	"fmt"
	"math/rand"
	"path"
	"regexp"
	"slices"
	"strconv"
	"strings"
	"testing"
	"unicode/utf8"

	"muniment/api"
	"muniment/names"
)

// goodNames are names that may be: ordinary ones, and those that stand at an edge.
func goodNames() []string {
	return []string{"a", "a b", " ", "~", "é", "日本", "😀", "...", ".a", "a.", ". ", "..a", "\\", "a\\b", "*", "?", "a*b", "[a]", "\uFFFD", "\u0080", "\u009f", "\u00a0", "\u2028",
		"e\u0301", "\ufeff", "\U0010FFFF", "\uE000", "\uD7FF", strings.Repeat("a", 64), strings.Repeat("é", 64), strings.Repeat("日", 64), strings.Repeat("😀", 63), strings.Repeat("😀", 63) + "日"}
}

// badNames are texts that no name may be, each for one cause.
func badNames() []string {
	return []string{"", ".", "..", "/", "a/b", "/a", "a/", "\x00", "a\x00", "\n", "a\n", "\x1f", "\x7f", "a\x7fb", "\xff", "a\xff", "\xc3", "\xa9", "é\xc3", "\xe6\x97", "\xf0\x9f\x98",
		"\xc0\xaf", "\xc1\x81", "\xe0\x80\xaf", "\xed\xa0\x80", "\xed\xbf\xbf", "\xf4\x90\x80\x80", "\xf8\x88\x80\x80\x80",
		strings.Repeat("a", 65), strings.Repeat("é", 65), strings.Repeat("😀", 64), strings.Repeat("a", 255), strings.Repeat("a", 1000), strings.Repeat("日", 64) + "a"}
}

// goodPaths are paths with their names.
func goodPaths() map[string][]string {
	m := map[string][]string{"/": nil, "/a": {"a"}, "/a/b": {"a", "b"}, "/a/b/a": {"a", "b", "a"}, "/ ": {" "}, "/.../é": {"...", "é"}, "/\\/*": {"\\", "*"}}
	for _, name := range goodNames() {
		m["/"+name] = []string{name}
		m[strings.Repeat("/"+name, api.MaxDepth)] = slices.Repeat([]string{name}, api.MaxDepth)
	}
	return m
}

// noPaths are texts that are no path.
func noPaths() []string {
	l := []string{"", "a", "a/b", "./a", "//", "//a", "/a/", "/a//b", "/a/b/", "/.", "/..", "/a/.", "/a/../b", " /a", "\\a", "/a\n", "/a/\xff",
		strings.Repeat("/a", 17), strings.Repeat("/a", 18), strings.Repeat("/a", 16) + "/", strings.Repeat("/", 17), strings.Repeat("/a", 100000), "/" + strings.Repeat("a", 100000)}
	for _, name := range badNames() {
		if !strings.Contains(name, "/") {
			l = append(l, "/"+name+"/a", "/a/"+name)
		}
	}
	return l
}

// texts are any bytes, whole runes or not.
func texts() []string {
	l := append(goodNames(), badNames()...)
	l = append(l, "", "\\u41;", "\\x41", "\\\\", "\xef\xbf", "\xef\xbf\xbd", "\xef\xbf\xbd\xef\xbf", "\xff\uFFFD\xff", "\x80\x80", "\xe6\x97\xa5", "\xe6\x97\xe6\x97\xa5", "\xf0\x9f\x98\x80\xf0", "a\xc3\\\xa9")
	r := rand.New(rand.NewSource(1))
	for n := range 200 {
		b := make([]byte, n)
		r.Read(b)
		l = append(l, string(b))
	}
	return l
}

func checkName(t *testing.T, name string, runes int, want api.Errno) {
	t.Helper()
	if e := names.Check(name); e != want {
		t.Errorf("Check(%q): %v, want %v", name, e, want)
	}
	if n, e := names.Runes(name); n != runes || e != want {
		t.Errorf("Runes(%q): %d, %v; want %d, %v", name, n, e, runes, want)
	}
}

func checkUnder(t *testing.T, path, above string, want bool) {
	t.Helper()
	if ok, e := names.Under(path, above); ok != want || e != api.OK {
		t.Errorf("Under(%q, %q): %v, %v; want %v", path, above, ok, e, want)
	}
}

func checkShown(t *testing.T, text, shown string) {
	t.Helper()
	if s := names.Show(text); s != shown {
		t.Errorf("Show(%q): %s, want %s", text, s, shown)
	}
	if s, e := names.Read(shown); s != text || e != api.OK {
		t.Errorf("Read(%s): %q, %v; want %q", shown, s, e, text)
	}
}

func checkUnread(t *testing.T, shown string) {
	t.Helper()
	if s, e := names.Read(shown); s != "" || e != api.ErrForm {
		t.Errorf("Read(%q): %q, %v; want ErrForm", shown, s, e)
	}
}

func checkMatch(t *testing.T, pattern, name string, want bool) {
	t.Helper()
	if ok, e := names.Match(pattern, name); ok != want || e != api.OK {
		t.Errorf("Match(%q, %q): %v, %v; want %v", pattern, name, ok, e, want)
	}
}

// P4.1

func TestCheckExamples(t *testing.T) {
	for _, name := range []string{"a b", "é"} {
		checkName(t, name, utf8.RuneCountInString(name), api.OK)
	}
	for _, name := range []string{"", "..", "a/b", "\xff", "a\n"} {
		checkName(t, name, 0, api.ErrName)
	}
}

func TestCheck(t *testing.T) {
	for _, name := range goodNames() {
		checkName(t, name, utf8.RuneCountInString(name), api.OK)
	}
	for _, name := range badNames() {
		checkName(t, name, 0, api.ErrName)
	}
}

// A rune may stand in a name or not wherever it stands there.
func TestCheckEachRune(t *testing.T) {
	for r := rune(0); r <= utf8.MaxRune; r++ {
		if !utf8.ValidRune(r) {
			continue
		}
		runes, want := 3, api.OK
		if r < 0x20 || r == 0x7F || r == '/' {
			runes, want = 0, api.ErrName
		}
		for _, name := range []string{"ab" + string(r), string(r) + "ab", "a" + string(r) + "b"} {
			checkName(t, name, runes, want)
		}
		if want == api.OK && r != '.' {
			checkName(t, string(r), 1, api.OK)
		}
	}
}

// Each byte, and each two, as the language's own reading of runes has them.
func TestCheckEachTwoBytes(t *testing.T) {
	for a := range 256 {
		checkName(t, "a"+string([]byte{byte(a)}), boolInt(a >= 0x20 && a < 0x7F && a != '/')*2, errIf(a < 0x20 || a >= 0x7F || a == '/'))
		for b := range 256 {
			s := string([]byte{byte(a), byte(b)})
			bad := !utf8.ValidString(s) || s == ".." || strings.ContainsFunc(s, func(r rune) bool { return r < 0x20 || r == 0x7F || r == '/' })
			if e := names.Check(s); e != errIf(bad) {
				t.Fatalf("Check(%q): %v", s, e)
			}
		}
	}
}

func boolInt(b bool) int {
	if b {
		return 1
	}
	return 0
}

func errIf(bad bool) api.Errno {
	if bad {
		return api.ErrName
	}
	return api.OK
}

func TestNameLimits(t *testing.T) {
	checkName(t, strings.Repeat("a", api.MaxRunes), api.MaxRunes, api.OK)
	checkName(t, strings.Repeat("a", api.MaxRunes+1), 0, api.ErrName)
	// Of as many bytes as may be with 64 and 65 runes, and of one more with 64.
	most, manyRunes, manyBytes := strings.Repeat("😀", 63)+"日", strings.Repeat("😀", 62)+"日éé", strings.Repeat("😀", 64)
	if len(most) != api.MaxName || len(manyRunes) != api.MaxName || len(manyBytes) != api.MaxName+1 {
		t.Fatalf("%d, %d and %d bytes", len(most), len(manyRunes), len(manyBytes))
	}
	checkName(t, most, 64, api.OK)
	checkName(t, manyRunes, 0, api.ErrName)
	checkName(t, manyBytes, 0, api.ErrName)
}

func TestLess(t *testing.T) {
	l := append(texts(), "a", "b", "ab", "A", "a\x00", "a!", "a/b", "é", "z", "\xff")
	for _, a := range l {
		for _, b := range l {
			if got, want := names.Less(a, b), slices.Compare([]byte(a), []byte(b)) < 0; got != want {
				t.Fatalf("Less(%q, %q): %v", a, b, got)
			}
		}
	}
}

func TestPathExamples(t *testing.T) {
	if l, e := names.Split("/a/b"); !slices.Equal(l, []string{"a", "b"}) || e != api.OK {
		t.Errorf("Split(/a/b): %q, %v", l, e)
	}
	if l, e := names.Split("/"); len(l) != 0 || e != api.OK {
		t.Errorf("Split(/): %q, %v", l, e)
	}
	for _, s := range []string{"a", "/a/"} {
		if l, e := names.Split(s); len(l) != 0 || e != api.ErrName {
			t.Errorf("Split(%s): %q, %v", s, l, e)
		}
	}
	for _, none := range [][]string{nil, {}} {
		if s, e := names.Join(none); s != "/" || e != api.OK {
			t.Errorf("Join(none): %q, %v", s, e)
		}
	}
}

func TestSplit(t *testing.T) {
	for path, want := range goodPaths() {
		if l, e := names.Split(path); !slices.Equal(l, want) || e != api.OK {
			t.Errorf("Split(%q): %q, %v; want %q", path, l, e, want)
		}
	}
	for _, path := range noPaths() {
		if l, e := names.Split(path); len(l) != 0 || e != api.ErrName {
			t.Errorf("Split(%.50q): %.50q, %v", path, l, e)
		}
	}
}

func TestJoin(t *testing.T) {
	for path, l := range goodPaths() {
		if s, e := names.Join(l); s != path || e != api.OK {
			t.Errorf("Join(%q): %q, %v; want %q", l, s, e, path)
		}
	}
	for _, name := range badNames() {
		for at := range api.MaxDepth {
			l := slices.Repeat([]string{"a"}, api.MaxDepth)
			l[at] = name
			for _, bad := range [][]string{l, l[:at+1]} {
				if s, e := names.Join(bad); s != "" || e != api.ErrName {
					t.Errorf("Join(%q): %q, %v", bad, s, e)
				}
			}
		}
	}
}

func TestDepthLimit(t *testing.T) {
	for n := range 40 {
		l := slices.Repeat([]string{"a"}, n)
		path := strings.Repeat("/a", n)
		if n == 0 {
			path = "/"
		}
		s, e := names.Join(l)
		back, e2 := names.Split(path)
		if n <= 16 && (s != path || e != api.OK || e2 != api.OK || !slices.Equal(back, l)) {
			t.Errorf("%d names: %q, %v; %q, %v", n, s, e, back, e2)
		}
		if n > 16 && (s != "" || e != api.ErrName || len(back) != 0 || e2 != api.ErrName) {
			t.Errorf("%d names: %q, %v; %q, %v", n, s, e, back, e2)
		}
	}
}

func TestUnderExamples(t *testing.T) {
	checkUnder(t, "/a/b", "/a", true)
	checkUnder(t, "/ab", "/a", false)
	checkUnder(t, "/a", "/a", false)
	checkUnder(t, "/a", "/", true)
}

// Under is asked of all pairs of paths with up to three names of a few that begin alike.
func TestUnder(t *testing.T) {
	l := [][]string{{}}
	for from := 0; from < len(l); from++ {
		if len(l[from]) == 3 {
			break
		}
		for _, name := range []string{"a", "ab", "b", "a b"} {
			l = append(l, append(slices.Clone(l[from]), name))
		}
	}
	for _, a := range l {
		for _, b := range l {
			want := len(a) > len(b) && slices.Equal(a[:len(b)], b)
			checkUnder(t, "/"+strings.Join(a, "/"), "/"+strings.Join(b, "/"), want)
		}
	}
	deep := strings.Repeat("/a", 16)
	checkUnder(t, deep, deep[:30], true)
	checkUnder(t, deep, deep, false)
	checkUnder(t, deep[:30], deep, false)
	checkUnder(t, deep, "/", true)
	checkUnder(t, "/", "/", false)
	checkUnder(t, "/", "/a", false)
}

func TestUnderErrors(t *testing.T) {
	for _, bad := range noPaths() {
		for _, pair := range [][2]string{{bad, "/a"}, {"/a", bad}, {bad, "/"}, {"/", bad}, {bad, bad}, {"/a/b/c", bad}} {
			if ok, e := names.Under(pair[0], pair[1]); ok || e != api.ErrName {
				t.Errorf("Under(%.50q, %.50q): %v, %v", pair[0], pair[1], ok, e)
			}
		}
	}
}

// P4.2: Show and Read

func TestShownExamples(t *testing.T) {
	checkShown(t, "aé\n\\\xff", `a\ue9;\ua;\\\xff`)
	checkShown(t, "é", `\ue9;`)
	for _, s := range []string{`\u41;`, `\x41`, `\u0e9;`} {
		checkUnread(t, s)
	}
}

func TestShow(t *testing.T) {
	for text, shown := range map[string]string{
		"": "", " ~": " ~", "\\": `\\`, "\\\\": `\\\\`, "\x00": `\u0;`, "\x1f": `\u1f;`, "\x7f": `\u7f;`, "\u0080": `\u80;`, "/..;": "/..;",
		"\uFFFD": `\ufffd;`, "\xef\xbf": `\xef\xbf`, "\xff\uFFFD\xff": `\xff\ufffd;\xff`, "\U0010FFFF": `\u10ffff;`, "\uABCD": `\uabcd;`,
		"\x80": `\x80`, "\xc3": `\xc3`, "\xa9\xc3": `\xa9\xc3`, "\xc3a": `\xc3a`, "\xe6\x97\xe6\x97\xa5": `\xe6\x97\u65e5;`,
		"\xed\xa0\x80": `\xed\xa0\x80`, "\xc0\xaf": `\xc0\xaf`, "\xf4\x90\x80\x80": `\xf4\x90\x80\x80`, "\\ua;": `\\ua;`, "\\xff": `\\xff`, "\xff9": `\xff9`,
	} {
		checkShown(t, text, shown)
	}
}

// referenceShow goes by the library's decoder and printer.
func referenceShow(s string) string {
	out := ""
	for s != "" {
		r, size := utf8.DecodeRuneInString(s)
		switch {
		case r == utf8.RuneError && size == 1:
			out += fmt.Sprintf("\\x%02x", s[0])
		case r == '\\':
			out += "\\\\"
		case r >= 0x20 && r <= 0x7E:
			out += string(r)
		default:
			out += fmt.Sprintf("\\u%x;", r)
		}
		s = s[size:]
	}
	return out
}

func TestShowEachRune(t *testing.T) {
	for r := rune(0); r <= utf8.MaxRune; r++ {
		if utf8.ValidRune(r) {
			checkShown(t, string(r), referenceShow(string(r)))
		}
	}
}

func TestShowEachTwoBytes(t *testing.T) {
	for a := range 256 {
		for b := range 256 {
			s := string([]byte{byte(a), byte(b)})
			checkShown(t, s, referenceShow(s))
		}
	}
}

// Texts of up to five bytes, of those at which runes begin, go on and end.
func TestShowFewBytes(t *testing.T) {
	l := []string{""}
	for from := 0; from < len(l) && len(l[from]) < 5; from++ {
		for _, b := range []string{"a", "\\", "u", "\x80", "\xbd", "\xbf", "\xc3", "\xef", "\xf0"} {
			l = append(l, l[from]+b)
		}
	}
	for _, s := range l {
		checkShown(t, s, referenceShow(s))
	}
}

func TestReadErrors(t *testing.T) {
	for _, s := range []string{
		`\`, `\q`, `a\`, `\u`, `\u;`, `\ue9`, `\ue9 ;`, `\u e9;`, `\u+e9;`, `\u-e9;`, `\u0xe9;`, `\ue_9;`, `\uE9;`, `\U00e9;`, `\u0;;\`, `\u00;`, `\u0e9;`, `\u00000000000000000000e9;`,
		`\u20;`, `\u7e;`, `\u5c;`, `\u2f;`, `\ud800;`, `\udfff;`, `\u110000;`, `\u7fffffff;`, `\u80000000;`, `\uffffffff;`, `\u100000000;`, `\u1000000e9;`, `\uffffffffffffffffff;`, `\u` + strings.Repeat("f", 1000) + ";",
		`\x`, `\x4`, `\x41`, `\x00`, `\x7f`, `\x5c`, `\xFF`, `\xfF`, `\xf`, `\xfg`, `\xg0`, `\x-1`, `\x f`, `\X80`, `\xf;`, `\x+f`,
		`\xc3\xa9`, `a\xc3\xa9b`, `\xef\xbf\xbd`, `\xe6\x97\xa5`, `\xf0\x9f\x98\x80`, `\xff\xc3\xa9`, `\xe6\xe6\x97\xa5`,
		"é", "\xff", "\n", "\x00", "\x1f", "\x7f", "\x80", "a\n", "\\\n", "\\é", "\\ué;", "\uFFFD", "\\xé", `\ue9;\`, `\\\`, `\ua;\u`,
	} {
		checkUnread(t, s)
	}
}

// form is a piece at the front of what is shown.
var form = regexp.MustCompile(`^(?:[ -\[\]-~]|\\\\|\\u(0|[1-9a-f][0-9a-f]{0,5});|\\x([89a-f][0-9a-f]))`)

// stars are all that stand side by side in a pattern.
var stars = regexp.MustCompile(`\*+`)

// referenceRead takes what is shown apart by the chapter's words: pieces of the form, each of a rune or a byte that is shown so, and as many as the text has.
func referenceRead(shown string) (string, bool) {
	text, pieces := "", []string{}
	for shown != "" {
		m := form.FindStringSubmatch(shown)
		if m == nil {
			return "", false
		}
		piece := m[0][:1]
		if m[1] != "" {
			n, _ := strconv.ParseInt(m[1], 16, 64)
			if n >= 0x20 && n <= 0x7E || !utf8.ValidRune(rune(n)) {
				return "", false
			}
			piece = string(rune(n))
		}
		if m[2] != "" {
			n, _ := strconv.ParseInt(m[2], 16, 64)
			piece = string([]byte{byte(n)})
		}
		pieces = append(pieces, piece)
		text += piece
		shown = shown[len(m[0]):]
	}
	for i, s := 0, text; s != ""; i++ {
		_, size := utf8.DecodeRuneInString(s)
		if i == len(pieces) || pieces[i] != s[:size] {
			return "", false
		}
		s = s[size:]
	}
	return text, true
}

func checkRead(t *testing.T, shown string) {
	t.Helper()
	want, ok := referenceRead(shown)
	s, e := names.Read(shown)
	if s != want || (e == api.OK) != ok || e != api.OK && e != api.ErrForm {
		t.Fatalf("Read(%s): %q, %v; want %q, %v", shown, s, e, want, ok)
	}
	if ok && names.Show(s) != shown {
		t.Fatalf("Show of Read(%s): %s", shown, names.Show(s))
	}
}

func TestReadAllShortTexts(t *testing.T) {
	l := []string{""}
	for from := 0; from < len(l) && len(l[from]) < 6; from++ {
		for _, b := range []string{"\\", "u", "x", ";", "0", "8", "f"} {
			l = append(l, l[from]+b)
		}
	}
	for _, s := range l {
		checkRead(t, s)
	}
}

func TestReadPieces(t *testing.T) {
	pieces := []string{"a", "\\\\", "\\xc3", "\\xa9", "\\xef", "\\xbf", "\\xbd", "\\ufffd;", "\\ue9;", "\\x41", "\\u41;", "\\ud800;", "\\u10ffff;", "\\u110000;", ";", "\\"}
	l := []string{""}
	for from := 0; from < 1+16+256+4096; from++ {
		for _, p := range pieces {
			l = append(l, l[from]+p)
		}
	}
	for _, s := range l {
		checkRead(t, s)
	}
}

// P4.2: Match

func TestMatchExamples(t *testing.T) {
	checkMatch(t, "a?*", "aé", true)
	checkMatch(t, "a?*", "a", false)
	checkMatch(t, "*.go", "x.go", true)
	checkMatch(t, "[a]", "a", false)
	if ok, e := names.Match("\xff", "a"); ok || e != api.ErrForm {
		t.Errorf("Match of no pattern: %v, %v", ok, e)
	}
}

func TestMatch(t *testing.T) {
	for _, c := range []struct {
		pattern, name string
		want          bool
	}{
		{"", "a", false}, {"a", "a", true}, {"a", "A", false}, {"a", "ab", false}, {"ab", "a", false}, {"é", "é", true}, {"e\u0301", "é", false}, {"é", "e\u0301", false},
		{"?", "日", true}, {"??", "日", false}, {"???", "日", false}, {"?", "ab", false}, {"?", "?", true}, {"?", "*", true}, {"??", "e\u0301", true},
		{"*", "*", true}, {"*", "日本", true}, {"**", "é", true}, {"a*", "a", true}, {"*a", "a", true}, {"*a*", "a", true}, {"a*a", "a", false}, {"a*a", "aa", true},
		{"*ab", "aabab", true}, {"*a*b", "aab", true}, {"*ab*ab", "ab", false}, {"*ab*ab", "aabab", true}, {"*aba*aba", "ababa", false}, {"a*b*c", "axbxbxc", true}, {"a*b*c", "axcxb", false},
		{"*?", "a", true}, {"?*?", "a", false}, {"*?*?*", "ab", true}, {"*?b", "ab", true}, {"*?b", "b", false}, {"*日?", "日日本", true}, {"*日?", "日", false}, {"*??ab", "日ab", false}, {"*\uFFFDb", "éb", false}, {"*?ab", "日日ab", true},
		{"\\*", "\\a", true}, {"\\*", "*", false}, {"\\?", "?", false}, {"\\", "\\", true}, {"[ab]", "a", false}, {"[ab]", "[ab]", true}, {"{a,b}", "a", false}, {".", "a", false}, {"*.*", "a", false}, {"*.*", ".a", true}, {"*", ".a", true},
		{"\uFFFD", "\uFFFD", true}, {"\uFFFD", "a", false}, {"?", "\uFFFD", true}, {"\n", "a", false}, {"/", "a", false}, {"a\x00", "a", false}, {"*\x7f", "a", false}, {".", ".a", false}, {"*/*", "ab", false},
	} {
		checkMatch(t, c.pattern, c.name, c.want)
	}
}

func TestPatternLimits(t *testing.T) {
	long := strings.Repeat("a", 64)
	checkMatch(t, strings.Repeat("*", 255), long, true)
	checkMatch(t, strings.Repeat("*", 191)+long, long, true)
	checkMatch(t, strings.Repeat("*", 191)+long, long[1:], false)
	checkMatch(t, strings.Repeat("?", 65), long, false)
	checkMatch(t, strings.Repeat("?", 255), long, false)
	checkMatch(t, strings.Repeat("*a", 64)+strings.Repeat("*", 127), long, true)
	checkMatch(t, strings.Repeat("*a", 127)+"b", long, false)
	checkMatch(t, strings.Repeat("日", 85), "日", false)
	for _, bad := range []string{strings.Repeat("*", 256), strings.Repeat("?", 256), strings.Repeat("é", 128), strings.Repeat("a", 100000)} {
		if ok, e := names.Match(bad, "a"); ok || e != api.ErrForm {
			t.Errorf("Match(%d bytes, a): %v, %v", len(bad), ok, e)
		}
	}
}

func TestMatchErrors(t *testing.T) {
	badPatterns := []string{"\xff", "*\xff", "\xc3", "*\xc3", "\xed\xa0\x80", "\xc0\xaf", "a\x80*", strings.Repeat("*", 256), strings.Repeat("*", 255) + "\xff"}
	for _, p := range badPatterns {
		for _, name := range append(badNames(), "a", "é") {
			if ok, e := names.Match(p, name); ok || e != api.ErrForm {
				t.Errorf("Match(%q, %q): %v, %v; want ErrForm", p, name, ok, e)
			}
		}
	}
	for _, name := range badNames() {
		for _, p := range []string{"", "*", "?", "a", "..", "**"} {
			if ok, e := names.Match(p, name); ok || e != api.ErrName {
				t.Errorf("Match(%q, %q): %v, %v; want ErrName", p, name, ok, e)
			}
		}
	}
}

// referenceMatch is the chapter's words as they stand, with every place that a star may end at.
func referenceMatch(pattern, name []rune) bool {
	if len(pattern) == 0 {
		return len(name) == 0
	}
	if pattern[0] == '*' {
		return referenceMatch(pattern[1:], name) || len(name) > 0 && referenceMatch(pattern, name[1:])
	}
	return len(name) > 0 && (pattern[0] == '?' || pattern[0] == name[0]) && referenceMatch(pattern[1:], name[1:])
}

func TestMatchAllShort(t *testing.T) {
	patterns, some := []string{""}, []string{""}
	for from := 0; from < len(patterns) && utf8.RuneCountInString(patterns[from]) < 6; from++ {
		for _, r := range []string{"a", "é", "?", "*"} {
			patterns = append(patterns, patterns[from]+r)
		}
	}
	for from := 0; from < len(some) && utf8.RuneCountInString(some[from]) < 5; from++ {
		for _, r := range []string{"a", "é", "*"} {
			some = append(some, some[from]+r)
		}
	}
	for _, p := range patterns {
		for _, name := range some[1:] {
			checkMatch(t, p, name, referenceMatch([]rune(p), []rune(name)))
		}
	}
}

// Of the library's patterns those without brackets and backslashes say the same of names without a slash.
func TestMatchLikeTheLibrary(t *testing.T) {
	r := rand.New(rand.NewSource(2))
	text := func(of []string, most int) string {
		s := ""
		for range r.Intn(most + 1) {
			s += of[r.Intn(len(of))]
		}
		return s
	}
	for range 20000 {
		p, name := text([]string{"a", "b", "日", "😀", "?", "*", "*"}, 30), "a"+text([]string{"a", "b", "日"}, 60)
		want, err := path.Match(p, name)
		if err != nil {
			t.Fatal(err)
		}
		checkMatch(t, p, name, want)
	}
}

// P4.3

func TestSplitOfJoinAndJoinOfSplit(t *testing.T) {
	r := rand.New(rand.NewSource(3))
	good := goodNames()
	for range 2000 {
		l := []string{}
		for range r.Intn(api.MaxDepth + 1) {
			l = append(l, good[r.Intn(len(good))])
		}
		path, e := names.Join(l)
		if e != api.OK {
			t.Fatalf("Join(%q): %v", l, e)
		}
		back, e := names.Split(path)
		if !slices.Equal(back, l) || e != api.OK {
			t.Fatalf("Split of Join(%q): %q, %v", l, back, e)
		}
		if s, e := names.Join(back); s != path || e != api.OK {
			t.Fatalf("Join of Split(%q): %q, %v", path, s, e)
		}
	}
}

func checkShownRules(t *testing.T, text string) {
	t.Helper()
	shown := names.Show(text)
	for i := range len(shown) {
		if shown[i] < 0x20 || shown[i] > 0x7E {
			t.Fatalf("Show(%q): %q has the byte %x", text, shown, shown[i])
		}
	}
	if s, e := names.Read(shown); s != text || e != api.OK {
		t.Fatalf("Read of Show(%q): %q, %v", text, s, e)
	}
	if s, e := names.Read(text); e == api.OK && names.Show(s) != text {
		t.Fatalf("Show of Read(%q): %q", text, names.Show(s))
	} else if e != api.OK && (s != "" || e != api.ErrForm) {
		t.Fatalf("Read(%q): %q, %v", text, s, e)
	}
}

func TestReadOfShow(t *testing.T) {
	for _, s := range texts() {
		checkShownRules(t, s)
		checkShownRules(t, names.Show(s))
		if got, want := names.Show(s), referenceShow(s); got != want {
			t.Errorf("Show(%q): %s, want %s", s, got, want)
		}
	}
	for _, s := range []string{strings.Repeat("\xff", 1<<20), strings.Repeat("é\\\n", 1<<18)} {
		checkShownRules(t, s)
	}
}

// A great text that is none is refused soon, however its pieces end.
func TestReadGreatTexts(t *testing.T) {
	for _, s := range []string{strings.Repeat(`\u`, 1<<20), strings.Repeat(`\u`, 1<<20) + ";", `\u` + strings.Repeat("0", 1<<21) + "e9;", strings.Repeat(`\u0e9;`, 1<<18), strings.Repeat("\xff", 1<<21)} {
		checkUnread(t, s)
	}
}

// P4.4

func checkMatchRules(t *testing.T, pattern, name string) {
	t.Helper()
	if names.Check(name) != api.OK {
		return
	}
	checkMatch(t, "*", name, true)
	checkMatch(t, "**", name, true)
	if !strings.ContainsAny(name, "?*") {
		checkMatch(t, name, name, true)
	}
	like, e := names.Match(pattern, name)
	if e != api.OK {
		return
	}
	once := stars.ReplaceAllString(pattern, "*")
	checkMatch(t, once, name, like)
	if twice := strings.ReplaceAll(pattern, "*", "**"); len(twice) <= api.MaxName {
		checkMatch(t, twice, name, like)
	}
	if !like {
		return
	}
	runes := []rune(pattern)
	for i, r := range runes {
		if r != '*' {
			other := slices.Clone(runes)
			other[i] = '?'
			checkMatch(t, string(other), name, true)
		}
	}
}

func TestMatchRules(t *testing.T) {
	patterns := append(goodNames(), "", "*", "?*", "*?", "a*b", "*a*", "**a", "*é*", "*本", "😀*")
	for _, name := range goodNames() {
		for _, p := range patterns {
			checkMatchRules(t, p, name)
		}
		runes := []rune(name)
		for i := range runes {
			other := slices.Clone(runes)
			other[i] = '?'
			checkMatch(t, string(other), name, true)
			checkMatchRules(t, string(runes[:i])+"*"+string(runes[i:]), name)
			checkMatchRules(t, string(runes[:i])+"*"+string(runes[i+1:]), name)
			checkMatch(t, string(runes[:i])+"*", name, true)
		}
	}
}

// The rules that hold for all layers

func TestListsAreTheCallersOwn(t *testing.T) {
	room := []string{"a", "b", "/", ".."}
	l := room[:2]
	if s, e := names.Join(l); s != "/a/b" || e != api.OK {
		t.Errorf("Join reads behind the list's end: %q, %v", s, e)
	}
	if !slices.Equal(room, []string{"a", "b", "/", ".."}) {
		t.Errorf("Join changed the list: %q", room)
	}
	one, _ := names.Split("/a/b")
	two, _ := names.Split("/a/b")
	for _, l := range [][]string{one, one[:cap(one)]} {
		for i := range l {
			l[i] = "x"
		}
	}
	three, _ := names.Split("/a/b")
	if !slices.Equal(two, []string{"a", "b"}) || !slices.Equal(three, two) {
		t.Errorf("Split's lists see one another: %q, %q", two, three)
	}
	checkUnder(t, "/a/b", "/a", true)
}

func FuzzNames(f *testing.F) {
	for _, s := range []string{"a", "é", "\\u41;", "\\xff", "*?", "/a/b", "\xff", ".."} {
		f.Add(s, "a")
		f.Add("*", s)
	}
	f.Fuzz(func(t *testing.T, a, b string) {
		checkShownRules(t, a)
		checkRead(t, a)
		if s := names.Show(a); s != referenceShow(a) {
			t.Fatalf("Show(%q): %s", a, s)
		}
		checkMatchRules(t, a, b)
		if like, e := names.Match(a, b); e == api.OK && len(a) < 20 && like != referenceMatch([]rune(a), []rune(b)) {
			t.Fatalf("Match(%q, %q): %v", a, b, like)
		}
		if l, e := names.Split(a); e == api.OK {
			if s, e := names.Join(l); s != a || e != api.OK {
				t.Fatalf("Join of Split(%q): %q, %v", a, s, e)
			}
		}
		if s, e := names.Join([]string{a, b}); e == api.OK {
			checkUnder(t, s, "/"+a, true)
			checkUnder(t, "/"+a, s, false)
		}
	})
}
