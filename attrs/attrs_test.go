package attrs_test

import (
	"encoding/binary"
	"encoding/hex"
	"math"
	"math/rand"
	"reflect"
	"slices"
	"strings"
	"testing"

	"muniment/api"
	"muniment/attrs"
)

type (
	attr  = attrs.Attr
	xattr = attrs.Xattr
)

// example is the Attr of the chapter's examples.
var example = attr{Node: api.NodeFile, Mode: 0644, Uid: 1000, Gid: 100, Mtime: 5}

func put(t *testing.T, a attr) string {
	t.Helper()
	s, e := attrs.Put(a)
	if e != api.OK {
		t.Fatalf("Put(%#v): %v", a, e)
	}
	return s
}

func stream(t *testing.T, l []attr) string {
	t.Helper()
	s, e := attrs.Stream(l)
	if e != api.OK {
		t.Fatalf("Stream of %d: %v", len(l), e)
	}
	return s
}

// number is a short number's bytes, and text those of a text with its length, by the library: its form is that of chapter 1.
func number(n uint64) string { return string(binary.AppendUvarint(nil, n)) }

func text(s string) string { return number(uint64(len(s))) + s }

// reckoned is an Attr's bytes by the chapter's words.
func reckoned(a attr) string {
	s := string([]byte{a.Node}) + number(uint64(a.Mode)) + number(uint64(a.Uid)) + number(uint64(a.Gid)) + number(uint64(a.Mtime))
	if a.Node == api.NodeLink {
		s += text(a.Target)
	}
	s += number(uint64(len(a.Xattrs)))
	for _, x := range a.Xattrs {
		s += text(x.Name) + text(x.Value)
	}
	return s
}

func reckonedStream(l []attr) string {
	var b strings.Builder
	b.WriteString(number(uint64(len(l))))
	for _, a := range l {
		b.WriteString(text(reckoned(a)))
	}
	return b.String()
}

// xattrs are so many extended attributes, in order.
func xattrs(n int, value string) []xattr {
	l := make([]xattr, n)
	for i := range l {
		l[i] = xattr{Name: string(rune('a' + i)), Value: value}
	}
	return l
}

func file(l ...xattr) attr { return attr{Node: api.NodeFile, Xattrs: l} }

func link(target string) attr { return attr{Node: api.NodeLink, Target: target} }

// largest is an Attr that has no larger one.
func largest() attr {
	a := attr{Node: api.NodeLink, Mode: 07777, Uid: math.MaxUint32, Gid: math.MaxUint32, Mtime: 1 << 40, Target: strings.Repeat("/", 1024)}
	for i := range 16 {
		a.Xattrs = append(a.Xattrs, xattr{Name: strings.Repeat("😀", 63) + string(rune(0x800+i)), Value: strings.Repeat("v", 4096)})
	}
	return a
}

// good are Attrs that may be: ordinary ones, and those that stand at an edge; no two are the same.
func good() []attr {
	l := []attr{
		example, {Node: 1}, {Node: 2}, {Node: 3, Target: "x"},
		{Node: 1, Mode: 1}, {Node: 1, Mode: 127}, {Node: 1, Mode: 128}, {Node: 1, Mode: 07776}, {Node: 2, Mode: 07777}, {Node: 3, Mode: 0777, Target: "../a b"},
		{Node: 1, Uid: 1}, {Node: 1, Gid: 1}, {Node: 1, Uid: 128}, {Node: 1, Gid: 16384}, {Node: 2, Uid: math.MaxUint32}, {Node: 2, Gid: math.MaxUint32},
		{Node: 1, Mtime: 1}, {Node: 1, Mtime: 1<<40 - 1}, {Node: 2, Mtime: 1 << 40}, {Node: 2, Mtime: 1 << 32},
		link("a"), link("/"), link("\n"), link("\xff\xfe"), link("\x01"), link("0"), link(strings.Repeat("x", 127)), link(strings.Repeat("x", 128)), link(strings.Repeat("x", 1023)), link(strings.Repeat("\xff", 1024)),
		file(xattr{"a", ""}), file(xattr{"a", "\x00"}), file(xattr{"a", "\x00\xff\n"}), file(xattr{"a", strings.Repeat("v", 4095)}), file(xattr{"a", strings.Repeat("\x00", 4096)}),
		file(xattr{"a", "1"}, xattr{"b", ""}), file(xattr{"a", ""}, xattr{"b", "1"}), file(xattr{"a", "1"}, xattr{"b", "2"}), file(xattr{"a", "b"}),
		file(xattr{"a", ""}, xattr{"aa", ""}), file(xattr{"Z", ""}, xattr{"a", ""}), file(xattr{"z", ""}, xattr{"é", ""}), file(xattr{"a b", ""}, xattr{"a.b", ""}), file(xattr{"\uFFFD", ""}, xattr{"😀", ""}),
		file(xattr{strings.Repeat("a", 64), ""}), file(xattr{strings.Repeat("😀", 63) + "日", "1"}), file(xattrs(15, "")...), file(xattrs(16, "1")...), file(xattrs(16, strings.Repeat("v", 4096))...),
		{Node: 2, Xattrs: xattrs(2, "x")}, {Node: 3, Target: "x", Xattrs: xattrs(2, "x")}, {Node: 3, Mode: 0600, Uid: 7, Gid: 8, Mtime: 9, Target: "x", Xattrs: xattrs(16, "x")},
		largest(),
	}
	return l
}

// bad are Attrs that may not be, each for one cause.
func bad() []attr {
	l := []attr{
		{}, {Node: 4}, {Node: 255}, {Node: 0, Mode: 0644}, {Node: 4, Target: "x"},
		{Node: 1, Mode: 010000}, {Node: 2, Mode: 010000}, {Node: 3, Mode: 010000, Target: "x"}, {Node: 1, Mode: 1 << 31}, {Node: 1, Mode: math.MaxUint32},
		{Node: 1, Mtime: -1}, {Node: 2, Mtime: math.MinInt64}, {Node: 1, Mtime: 1<<40 + 1}, {Node: 2, Mtime: math.MaxInt64},
		{Node: 1, Target: "x"}, {Node: 2, Target: "x"}, {Node: 1, Target: "\x00"}, link(""), link("\x00"), link("\x00a"), link("a\x00"), link("a\x00b"), link(strings.Repeat("x", 1023) + "\x00"), link(strings.Repeat("x", 1025)), link(strings.Repeat("x", 100000)),
		file(xattr{"a", strings.Repeat("v", 4097)}), file(xattr{"a", "1"}, xattr{"b", strings.Repeat("v", 100000)}), file(xattrs(17, "")...), file(xattrs(1000, "")...),
		file(xattr{"b", ""}, xattr{"a", ""}), file(xattr{"a", ""}, xattr{"a", ""}), file(xattr{"a", "1"}, xattr{"a", "2"}), file(xattr{"aa", ""}, xattr{"a", ""}), file(xattr{"a", ""}, xattr{"Z", ""}), file(xattr{"é", ""}, xattr{"z", ""}),
		file(xattr{"😀", ""}, xattr{"\uFFFD", ""}), file(xattr{"a", ""}, xattr{"c", ""}, xattr{"b", ""}), file(xattr{"a", ""}, xattr{"b", ""}, xattr{"a", ""}), file(slices.Concat(xattrs(15, ""), xattrs(1, ""))...),
		{Node: 2, Xattrs: []xattr{{"b", ""}, {"a", ""}}}, {Node: 3, Target: "x", Xattrs: []xattr{{"b", ""}, {"a", ""}}},
	}
	for _, name := range []string{"", ".", "..", "a/b", "\x00", "\n", "\x7f", "\xff", strings.Repeat("a", 65), strings.Repeat("😀", 64), strings.Repeat("a", 256)} {
		l = append(l, file(xattr{name, "1"}))
	}
	return append(l, file(xattr{"a", ""}, xattr{"b/", ""}), file(xattr{"\n", ""}, xattr{"b", ""}))
}

// badBytes are those of bad whose bytes show it: a target that no link has does not stand in them.
func badBytes() []attr {
	return slices.DeleteFunc(bad(), func(a attr) bool { return (a.Node == 1 || a.Node == 2) && a.Target != "" })
}

// anyOf is an Attr that may be, anyhow.
func anyOf(r *rand.Rand) attr {
	a := attr{Node: uint8(1 + r.Intn(3)), Mode: uint32(r.Intn(010000)), Uid: r.Uint32() >> r.Intn(33), Gid: r.Uint32() >> r.Intn(33), Mtime: r.Int63n(1<<40+1) >> r.Intn(41)}
	if a.Node == api.NodeLink {
		a.Target = strings.ReplaceAll(some(r, 1+r.Intn(200)), "\x00", "0")
	}
	for i := range r.Intn(17) {
		if r.Intn(3) > 0 {
			a.Xattrs = append(a.Xattrs, xattr{Name: string(rune('a'+i)) + strings.Repeat("é", r.Intn(60)), Value: some(r, r.Intn(200))})
		}
	}
	return a
}

func some(r *rand.Rand, n int) string {
	b := make([]byte, n)
	r.Read(b)
	return string(b)
}

// same says by the language whether two are the same.
func same(a, b attr) bool {
	if len(a.Xattrs) == 0 && len(b.Xattrs) == 0 {
		a.Xattrs, b.Xattrs = nil, nil
	}
	return reflect.DeepEqual(a, b)
}

// short is a text as a test shows it: the large ones cut.
func short(s string) string {
	if len(s) > 60 {
		return hex.EncodeToString([]byte(s[:60])) + ".."
	}
	return hex.EncodeToString([]byte(s))
}

func TestLimits(t *testing.T) {
	if attrs.MaxMode != 4095 || attrs.MaxTarget != 1024 || attrs.MaxXattrs != 16 || attrs.MaxValue != 4096 {
		t.Error("a limit is another one than the chapter's")
	}
}

// The chapter's examples, row by row.

func TestExamplePut(t *testing.T) {
	if s, e := attrs.Put(example); s != "\x01\xa4\x03\xe8\x07\x64\x05\x00" || e != api.OK {
		t.Errorf("Put: %s, %v", short(s), e)
	}
}

func TestExampleCheck(t *testing.T) {
	for _, a := range []attr{{Node: api.NodeFile, Target: "x"}, {Node: api.NodeLink}, {Node: api.NodeFile, Mode: 010000}, file(xattr{Name: "b"}, xattr{Name: "a"})} {
		if e := attrs.Check(a); e != api.ErrArg {
			t.Errorf("Check(%#v): %v", a, e)
		}
	}
}

func TestExampleModes(t *testing.T) {
	checkModes(t, api.NodeFile, 0644, "-rw-r--r--")
	checkModes(t, api.NodeFolder, 01777, "drwxrwxrwt")
	checkModes(t, api.NodeLink, 04600, "lrwS------")
}

func TestExampleErrors(t *testing.T) {
	checkUnread(t, put(t, example)+"x")
	checkUnread(t, put(t, example)+"\x00")
	if s, e := attrs.Stream(nil); s != "" || e != api.ErrArg {
		t.Errorf("Stream(none): %s, %v", short(s), e)
	}
	checkNoStream(t, "")
}

// P10.1

func TestCheck(t *testing.T) {
	for _, a := range good() {
		if e := attrs.Check(a); e != api.OK {
			t.Errorf("Check(%#v): %v", a, e)
		}
	}
	for _, a := range bad() {
		if e := attrs.Check(a); e != api.ErrArg {
			t.Errorf("Check(%#v): %v, want ErrArg", a, e)
		}
	}
}

func TestCheckEachNode(t *testing.T) {
	for n := range 256 {
		for _, target := range []string{"", "x"} {
			want := api.ErrArg
			if n == 3 && target != "" || (n == 1 || n == 2) && target == "" {
				want = api.OK
			}
			if e := attrs.Check(attr{Node: uint8(n), Target: target}); e != want {
				t.Errorf("a node %d, target %q: %v, want %v", n, target, e, want)
			}
		}
	}
}

// Every byte but 00 may stand in a target, wherever, and every one in a value.
func TestCheckEachByte(t *testing.T) {
	for n := range 256 {
		b := string([]byte{byte(n)})
		want := api.OK
		if n == 0 {
			want = api.ErrArg
		}
		for _, target := range []string{b, b + "a", "a" + b, "a" + b + "a"} {
			if e := attrs.Check(link(target)); e != want {
				t.Errorf("target %q: %v, want %v", target, e, want)
			}
		}
		if e := attrs.Check(file(xattr{"a", b})); e != api.OK {
			t.Errorf("value %q: %v", b, e)
		}
	}
}

func TestCheckLengths(t *testing.T) {
	for n := range 1100 {
		if e := attrs.Check(link(strings.Repeat("x", n))); (e == api.OK) != (n >= 1 && n <= 1024) {
			t.Errorf("a target of %d bytes: %v", n, e)
		}
	}
	for n := 4000; n < 4200; n++ {
		if e := attrs.Check(file(xattr{"a", strings.Repeat("x", n)})); (e == api.OK) != (n <= 4096) {
			t.Errorf("a value of %d bytes: %v", n, e)
		}
	}
	for n := range 30 {
		if e := attrs.Check(file(xattrs(n, "")...)); (e == api.OK) != (n <= 16) {
			t.Errorf("%d extended attributes: %v", n, e)
		}
	}
}

// The names rise one by one: of two places that change their names it does not matter which they are.
func TestCheckOrder(t *testing.T) {
	for i := range 16 {
		for j := range i {
			a := file(xattrs(16, "")...)
			a.Xattrs[i].Name, a.Xattrs[j].Name = a.Xattrs[j].Name, a.Xattrs[i].Name
			if e := attrs.Check(a); e != api.ErrArg {
				t.Errorf("names %d and %d changed: %v", i, j, e)
			}
			a = file(xattrs(16, "")...)
			a.Xattrs[i].Name = a.Xattrs[j].Name
			if e := attrs.Check(a); e != api.ErrArg {
				t.Errorf("name %d twice: %v", j, e)
			}
		}
	}
}

func TestSame(t *testing.T) {
	l := append(good(), bad()...)
	for i, a := range l {
		for j, b := range l {
			if got, want := attrs.Same(a, b), i == j; got != want {
				t.Errorf("Same(%#v, %#v): %v", a, b, got)
			}
		}
		b := a
		b.Xattrs = slices.Clone(a.Xattrs)
		if !attrs.Same(a, b) {
			t.Errorf("Same(%#v) of a copy: false", a)
		}
	}
}

func TestSameEachField(t *testing.T) {
	a := attr{Node: 3, Mode: 1, Uid: 2, Gid: 3, Mtime: 4, Target: "5", Xattrs: []xattr{{"6", "7"}, {"8", "9"}}}
	for i, change := range []func(b *attr){
		func(b *attr) { b.Node = 2 },
		func(b *attr) { b.Node = 7 },
		func(b *attr) { b.Mode = 1 << 31 },
		func(b *attr) { b.Uid = 3 },
		func(b *attr) { b.Gid = 2 },
		func(b *attr) { b.Uid, b.Gid = b.Gid, b.Uid },
		func(b *attr) { b.Mtime = -4 },
		func(b *attr) { b.Mtime += 1 << 32 },
		func(b *attr) { b.Target = "" },
		func(b *attr) { b.Target = "5\x00" },
		func(b *attr) { b.Xattrs = nil },
		func(b *attr) { b.Xattrs = b.Xattrs[:1] },
		func(b *attr) { b.Xattrs = append(b.Xattrs, xattr{}) },
		func(b *attr) { b.Xattrs[0].Name = "8" },
		func(b *attr) { b.Xattrs[0].Value = "" },
		func(b *attr) { b.Xattrs[1].Name = "" },
		func(b *attr) { b.Xattrs[1].Value = "7" },
		func(b *attr) { b.Xattrs[0], b.Xattrs[1] = b.Xattrs[1], b.Xattrs[0] },
		func(b *attr) { b.Xattrs[0].Name, b.Xattrs[0].Value = b.Xattrs[0].Value, b.Xattrs[0].Name },
	} {
		b := a
		b.Xattrs = slices.Clone(a.Xattrs)
		if !attrs.Same(a, b) || !attrs.Same(b, a) {
			t.Errorf("change %d: not the same ahead of it", i)
		}
		change(&b)
		if attrs.Same(a, b) || attrs.Same(b, a) {
			t.Errorf("change %d: the same", i)
		}
	}
	// R6: none is none.
	if !attrs.Same(attr{Xattrs: nil}, attr{Xattrs: []xattr{}}) || !attrs.Same(attr{Xattrs: make([]xattr, 0, 3)}, attr{}) {
		t.Error("no extended attributes, nil and empty: not the same")
	}
}

func TestPut(t *testing.T) {
	for _, a := range good() {
		if s, e := attrs.Put(a); s != reckoned(a) || e != api.OK {
			t.Errorf("Put(%#v): %s, %v", a, short(s), e)
		}
	}
	for _, a := range bad() {
		if s, e := attrs.Put(a); s != "" || e != api.ErrArg {
			t.Errorf("Put(%#v): %s, %v; want ErrArg", a, short(s), e)
		}
	}
}

// Bytes that were told by hand, not by way of another program.
func TestPutByHand(t *testing.T) {
	for _, c := range []struct {
		a    attr
		want string
	}{
		{attr{Node: 2}, "020000000000"},
		{link("ab"), "0300000000" + "026162" + "00"},
		{attr{Node: 1, Mode: 07777, Uid: math.MaxUint32, Gid: math.MaxUint32, Mtime: 1 << 40}, "01" + "ff1f" + "ffffffff0f" + "ffffffff0f" + "808080808020" + "00"},
		{file(xattr{"a", ""}, xattr{"é", "\x00"}), "0100000000" + "02" + "0161" + "00" + "02c3a9" + "0100"},
		{attr{Node: 3, Mode: 0777, Uid: 1, Gid: 2, Mtime: 3, Target: "x", Xattrs: []xattr{{"k", "v"}}}, "03" + "ff03" + "01" + "02" + "03" + "0178" + "01" + "016b" + "0176"},
	} {
		s := put(t, c.a)
		if hex.EncodeToString([]byte(s)) != c.want {
			t.Errorf("Put(%#v): %s, want %s", c.a, short(s), c.want)
		}
		checkRead(t, s, c.a)
	}
}

func checkRead(t *testing.T, s string, want attr) {
	t.Helper()
	if a, e := attrs.Read(s); !same(a, want) || e != api.OK {
		t.Errorf("Read(%s): %#v, %v; want %#v", short(s), a, e, want)
	}
}

func checkUnread(t *testing.T, s string) {
	t.Helper()
	if a, e := attrs.Read(s); !same(a, attr{}) || e != api.ErrForm {
		t.Errorf("Read(%s): %#v, %v; want ErrForm", short(s), a, e)
	}
}

func TestRead(t *testing.T) {
	for _, a := range good() {
		checkRead(t, reckoned(a), a)
	}
}

// The bytes that an Attr would have that may not be, are those of none.
func TestReadOfNone(t *testing.T) {
	for _, a := range badBytes() {
		checkUnread(t, reckoned(a))
	}
}

func TestReadPieces(t *testing.T) {
	for _, a := range good() {
		s := reckoned(a)
		for i := range min(len(s), 300) {
			checkUnread(t, s[:i])
			checkUnread(t, s[:len(s)-1-i])
			oneForm(t, s[1+i:])
		}
		for _, more := range []string{"\x00", "\x01", "x", "\xff", s} {
			checkUnread(t, s+more)
		}
	}
}

// Numbers that are too large for their field, whatever their lower bits say, and other forms of those that fit.
func TestReadNumbers(t *testing.T) {
	most := []uint64{07777, math.MaxUint32, math.MaxUint32, 1 << 40, 0}
	for field, limit := range most {
		with := func(n string) string {
			l := []string{"\x00", "\x00", "\x00", "\x00", "\x00"}
			l[field] = n
			return "\x01" + strings.Join(l, "")
		}
		if _, e := attrs.Read(with(number(limit))); e != api.OK {
			t.Errorf("field %d, its limit: %v", field, e)
		}
		for _, n := range []uint64{limit + 1, 1<<32 + 5, 1<<41 + 5, 1<<63 + 5, 1 << 63, math.MaxInt64, math.MaxUint64, math.MaxUint64 - 5} {
			if n > limit {
				checkUnread(t, with(number(n)))
			}
		}
		for _, s := range []string{"", "\x80", "\x80\x00", "\x85\x80\x00", "\xff\xff\xff\xff\xff\xff\xff\xff\xff\x02", "\xff\xff\xff\xff\xff\xff\xff\xff\xff\xff\x01"} {
			checkUnread(t, with(s))
		}
	}
}

func TestReadCounts(t *testing.T) {
	head := "\x01\x00\x00\x00\x00"
	one := text("a") + text("1")
	checkRead(t, head+"\x01"+one, file(xattr{"a", "1"}))
	for _, s := range []string{
		head + "\x00" + one, head + "\x02" + one, head + "\x81\x00" + one, head + "\x01" + one + one, head + "\x02" + one + one, head + "\x01" + one[:3], head + "\x01",
		head + "\x01" + "\x81\x00a" + text("1"), head + "\x01" + text("a") + "\x81\x001", head + "\x01" + "\x02a" + text("1"), head + "\x01" + text("a") + "\x021",
		head + "\x01" + number(math.MaxUint64) + "a" + text("1"), head + "\x01" + text("a") + number(math.MaxUint64), head + number(17) + strings.Repeat(one, 17), head + number(1<<62),
		"\x03\x00\x00\x00\x00" + "\x00", "\x03\x00\x00\x00\x00" + "\x00\x00", "\x03\x00\x00\x00\x00" + "\x02a\x00", "\x03\x00\x00\x00\x00" + "\x81\x00a\x00", "\x03\x00\x00\x00\x00" + number(math.MaxUint64) + "a\x00",
		"\x01\x00\x00\x00\x00" + "\x01x\x00", "\x02\x00\x00\x00\x00" + "\x00\x00", "\x00\x00\x00\x00\x00\x00", "\x04\x00\x00\x00\x00\x00", "\x81\x00\x00\x00\x00\x00\x00",
	} {
		checkUnread(t, s)
	}
}

// oneForm asks that bytes which Read takes are those of its answer, and that it takes them just if they are.
func oneForm(t *testing.T, s string) {
	t.Helper()
	a, e := attrs.Read(s)
	if e != api.OK && (e != api.ErrForm || !same(a, attr{})) {
		t.Errorf("Read(%s): %#v, %v", short(s), a, e)
	}
	if e == api.OK && (reckoned(a) != s || attrs.Check(a) != api.OK) {
		t.Errorf("Read(%s): %#v, whose bytes are %s", short(s), a, short(reckoned(a)))
	}
}

func TestReadAnyByte(t *testing.T) {
	for _, a := range good() {
		s := []byte(reckoned(a))
		if len(s) > 10000 {
			continue // the smaller ones ask the same in less time
		}
		for i := range min(len(s), 40) {
			was := s[i]
			for n := range 256 {
				s[i] = byte(n)
				oneForm(t, string(s))
			}
			s[i] = was
		}
	}
}

func TestReadAnyBytes(t *testing.T) {
	r := rand.New(rand.NewSource(1))
	for range 50000 {
		b := make([]byte, r.Intn(20))
		for i := range b {
			b[i] = byte([]int{0, 1, 2, 3, 4, 'a', 'b', 0x80, 0xff, r.Intn(256)}[r.Intn(10)])
		}
		oneForm(t, string(b))
	}
	for range 2000 {
		a := anyOf(r)
		s := reckoned(a)
		checkRead(t, s, a)
		i, j := r.Intn(len(s)), r.Intn(len(s))
		oneForm(t, s[:i]+s[j:])
		oneForm(t, s[:i]+some(r, 1+r.Intn(3))+s[i:])
	}
}

// P10.2

func checkStream(t *testing.T, l []attr) {
	t.Helper()
	want := reckonedStream(l)
	if s, e := attrs.Stream(l); s != want || e != api.OK {
		t.Errorf("Stream of %d: %s, %v; want %s", len(l), short(s), e, short(want))
	}
	m, e := attrs.ReadStream(want)
	if e != api.OK || !slices.EqualFunc(m, l, same) {
		t.Errorf("ReadStream of %d: %d of them, %v", len(l), len(m), e)
	}
}

func checkUnput(t *testing.T, l []attr) {
	t.Helper()
	if s, e := attrs.Stream(l); s != "" || e != api.ErrArg {
		t.Errorf("Stream of %d: %s, %v; want ErrArg", len(l), short(s), e)
	}
}

func checkNoStream(t *testing.T, s string) {
	t.Helper()
	if l, e := attrs.ReadStream(s); len(l) != 0 || e != api.ErrForm {
		t.Errorf("ReadStream(%s): %d of them, %v; want ErrForm", short(s), len(l), e)
	}
}

func TestStreamByHand(t *testing.T) {
	l := []attr{{Node: api.NodeFolder}, example, link("x")}
	want := "03" + "06020000000000" + "0801a403e807640500" + "080300000000017800"
	if s := stream(t, l); hex.EncodeToString([]byte(s)) != want {
		t.Errorf("Stream: %s, want %s", short(s), want)
	}
	checkStream(t, l)
}

func TestStream(t *testing.T) {
	l := good()
	checkStream(t, l)
	for i := range l {
		checkStream(t, l[i:i+1])
		checkStream(t, []attr{l[i], l[0], l[i]})
	}
	for _, a := range bad() {
		checkUnput(t, []attr{a})
		checkUnput(t, []attr{a, example})
		checkUnput(t, []attr{example, a})
		checkUnput(t, []attr{example, a, example})
	}
	for _, a := range badBytes() {
		checkNoStream(t, reckonedStream([]attr{a}))
		checkNoStream(t, reckonedStream([]attr{a, example}))
		checkNoStream(t, reckonedStream([]attr{example, a}))
	}
}

func TestStreamCounts(t *testing.T) {
	for _, n := range []int{1, 2, 127, 128, 255, 256, 257} {
		checkStream(t, slices.Repeat([]attr{example}, n))
	}
	for _, n := range []int{0, 258, 259, 1000, 65537} {
		checkUnput(t, slices.Repeat([]attr{example}, n))
		checkNoStream(t, reckonedStream(slices.Repeat([]attr{example}, n)))
	}
	checkUnput(t, []attr{})
}

// However much they hold, a folder's attributes with its own are put and read in a short while.
func TestStreamOfLargest(t *testing.T) {
	checkStream(t, slices.Repeat([]attr{largest()}, 257))
}

func TestReadStreamPieces(t *testing.T) {
	l := []attr{example, link("x"), file(xattrs(2, "v")...)}
	s := reckonedStream(l)
	for i := range len(s) {
		checkNoStream(t, s[:i])
		checkNoStream(t, s[1+i:])
	}
	for _, more := range []string{"\x00", "x", s, text(reckoned(example))} {
		checkNoStream(t, s+more)
	}
}

func TestReadStreamForms(t *testing.T) {
	one := reckoned(example)
	for _, s := range []string{
		"\x00", "\x00" + text(one), "\x02" + text(one), "\x01" + text(one) + text(one), "\x81\x00" + text(one), "\x80\x00", "\x80", "\x01", "\x01\x00", "\x02\x00\x00", text(one), one,
		"\x01" + text(one+"x"), "\x01" + text(one[:7]), "\x01" + text(one) + "x", "\x01\x88\x00" + one, "\x01\x09" + one, "\x01\x07" + one, "\x01" + number(math.MaxUint64) + one, "\x01" + number(1<<63) + one,
		"\x02" + text(one) + text(""), "\x02" + text("") + text(one), "\x02" + text(one+one), "\x02\x10" + one + one,
		number(math.MaxUint64) + text(one), number(1<<63) + text(one), number(1<<32+1) + text(one), number(257) + text(one), number(258) + text(one),
	} {
		checkNoStream(t, s)
	}
}

func TestReadStreamAnyByte(t *testing.T) {
	r := rand.New(rand.NewSource(2))
	oneForm := func(s string) {
		l, e := attrs.ReadStream(s)
		if e != api.OK && (e != api.ErrForm || len(l) != 0) {
			t.Errorf("ReadStream(%s): %d of them, %v", short(s), len(l), e)
		}
		if e == api.OK && (len(l) == 0 || len(l) > 257 || reckonedStream(l) != s) {
			t.Errorf("ReadStream(%s): %#v", short(s), l)
		}
	}
	for range 30 {
		s := []byte(reckonedStream([]attr{example, anyOf(r), {Node: 2}}))
		for i := range min(len(s), 60) {
			was := s[i]
			for n := range 256 {
				s[i] = byte(n)
				oneForm(string(s))
			}
			s[i] = was
		}
	}
	for range 20000 {
		oneForm(some(r, r.Intn(12)))
	}
}

// P10.3

func checkModes(t *testing.T, node uint8, mode uint32, want string) {
	t.Helper()
	if s, e := attrs.Modes(node, mode); s != want || e != api.OK {
		t.Errorf("Modes(%d, %o): %s, %v; want %s", node, mode, s, e, want)
	}
}

// modes is ten letters by the chapter's words: the bits are counted from the lowest, the first one, on.
func modes(node uint8, mode uint32) string {
	is := func(bit int) bool { return mode&(1<<(bit-1)) != 0 }
	s := []byte{map[uint8]byte{api.NodeFile: '-', api.NodeFolder: 'd', api.NodeLink: 'l'}[node]}
	for i := range 9 {
		c := byte('-')
		if is(9 - i) {
			c = "rwx"[i%3]
		}
		s = append(s, c)
	}
	for i, letter := range []string{"sS", "sS", "tT"} {
		if at := 3 + 3*i; is(12-i) && s[at] == 'x' {
			s[at] = letter[0]
		} else if is(12 - i) {
			s[at] = letter[1]
		}
	}
	return string(s)
}

func TestModes(t *testing.T) {
	for _, node := range []uint8{1, 2, 3} {
		for mode := range uint32(010000) {
			checkModes(t, node, mode, modes(node, mode))
		}
	}
}

func TestModesByHand(t *testing.T) {
	checkModes(t, api.NodeFile, 0, "----------")
	checkModes(t, api.NodeFile, 0400, "-r--------")
	checkModes(t, api.NodeFile, 0020, "-----w----")
	checkModes(t, api.NodeFile, 0001, "---------x")
	checkModes(t, api.NodeFile, 06755, "-rwsr-sr-x")
	checkModes(t, api.NodeFile, 01000, "---------T")
	checkModes(t, api.NodeFile, 02000, "------S---")
	checkModes(t, api.NodeFile, 04000, "---S------")
	checkModes(t, api.NodeFolder, 07777, "drwsrwsrwt")
	checkModes(t, api.NodeLink, 07666, "lrwSrwSrwT")
	checkModes(t, api.NodeLink, 0777, "lrwxrwxrwx")
}

func TestModesErrors(t *testing.T) {
	unfit := func(node uint8, mode uint32) {
		t.Helper()
		if s, e := attrs.Modes(node, mode); s != "" || e != api.ErrArg {
			t.Errorf("Modes(%d, %o): %q, %v; want ErrArg", node, mode, s, e)
		}
	}
	for n := range 256 {
		if n < 1 || n > 3 {
			unfit(uint8(n), 0644)
		}
		unfit(uint8(n), 010000)
	}
	for bit := 12; bit < 32; bit++ {
		unfit(api.NodeFile, 1<<bit)
		unfit(api.NodeLink, 1<<bit|07777)
	}
	unfit(api.NodeFolder, math.MaxUint32)
}

// P10.4

func TestReadOfPut(t *testing.T) {
	r := rand.New(rand.NewSource(3))
	seen := map[string]attr{}
	ask := func(a attr) {
		s := put(t, a)
		b, e := attrs.Read(s)
		if e != api.OK || !same(a, b) || !attrs.Same(a, b) || put(t, b) != s {
			t.Errorf("Read of Put(%#v): %#v, %v", a, b, e)
		}
		if was, met := seen[s]; met && !same(was, a) {
			t.Errorf("%#v and %#v have the same bytes", was, a)
		}
		seen[s] = a
	}
	for _, a := range good() {
		ask(a)
	}
	for range 3000 {
		ask(anyOf(r))
	}
	if len(seen) < 2900 {
		t.Errorf("%d unlike bytes", len(seen))
	}
}

func TestReadStreamOfStream(t *testing.T) {
	r := rand.New(rand.NewSource(4))
	for range 100 {
		l := make([]attr, 1+r.Intn(20))
		for i := range l {
			l[i] = anyOf(r)
		}
		s := stream(t, l)
		m, e := attrs.ReadStream(s)
		if e != api.OK || !slices.EqualFunc(l, m, attrs.Same) || stream(t, m) != s {
			t.Errorf("ReadStream of Stream of %d: %v", len(l), e)
		}
	}
}

// Where one ends and the next begins is told: what is the same laid in a row is not the same stream.
func TestUnlikeStreams(t *testing.T) {
	a, b := example, attr{Node: api.NodeFolder}
	seen := map[string]int{}
	for i, l := range [][]attr{{a}, {b}, {a, a}, {a, b}, {b, a}, {b, b}, {a, b, a}, {a, a, b}} {
		s := stream(t, l)
		if was, met := seen[s]; met {
			t.Errorf("rows %d and %d have the same stream", was, i)
		}
		seen[s] = i
	}
}

// R3, R6

// Nothing that is handed in is changed, or read beyond its length.
func TestArgumentsStay(t *testing.T) {
	room := []xattr{{"a", "1"}, {"b", "2"}, {"c", "3"}, {"", "behind"}, {"/", "behind"}}
	l := []attr{{Node: 1, Xattrs: room[:3]}, {Node: 2, Xattrs: room[:1]}, {Node: 9, Target: "behind", Xattrs: room}}
	wasRoom, was := slices.Clone(room), slices.Clone(l)
	checkRead(t, put(t, l[0]), attr{Node: 1, Xattrs: wasRoom[:3]})
	s := stream(t, l[:2])
	if s != reckonedStream(l[:2]) {
		t.Errorf("Stream: %s", short(s))
	}
	attrs.Check(l[0])
	attrs.Same(l[0], l[1])
	if _, e := attrs.Stream(l); e != api.ErrArg {
		t.Errorf("Stream with one that may not be: %v", e)
	}
	if !slices.Equal(room, wasRoom) || !slices.EqualFunc(l, was, same) {
		t.Error("an argument was changed")
	}
}

// What is handed out is the caller's: whatever is written there is not seen in another list, nor in a later answer.
func TestAnswersAreNew(t *testing.T) {
	l := []attr{file(xattrs(3, "v")...), file(xattrs(3, "v")...), link("x"), file(xattrs(5, "w")...)}
	s := stream(t, l)
	for i := range l {
		m, _ := attrs.ReadStream(s)
		scribble(m[i].Xattrs)
		for j := range l {
			if j != i && !same(m[j], l[j]) {
				t.Errorf("what was written into the list of %d is seen in that of %d", i, j)
			}
		}
		clear(m[:cap(m)])
	}
	a, _ := attrs.Read(put(t, l[0]))
	scribble(a.Xattrs)
	checkRead(t, put(t, l[0]), l[0])
	checkStream(t, l)
}

// scribble writes all over a list, and the room behind its end.
func scribble(l []xattr) {
	l = l[:cap(l)]
	for i := range l {
		l[i] = xattr{"scribble", "scribble"}
	}
}

// An empty list, nil or not, has the same bytes.
func TestNilAndEmpty(t *testing.T) {
	for _, l := range [][]xattr{nil, {}, make([]xattr, 0, 4)} {
		a := attr{Node: api.NodeFile, Mode: 0644, Uid: 1000, Gid: 100, Mtime: 5, Xattrs: l}
		if put(t, a) != put(t, example) || !attrs.Same(a, example) {
			t.Errorf("no extended attributes: %s", short(put(t, a)))
		}
	}
}
