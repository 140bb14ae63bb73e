package object_test

import (
	"math"
	"math/rand"
	"slices"
	"strings"
	"testing"

	"muniment/api"
	"muniment/object"
	"muniment/pack"
	"muniment/split"
)

type plan = split.Plan

// small is the plan of the chapter's examples.
var small = plan{Bits: 4, Fan: 2, Most: 64}

func noughts(n int) string { return strings.Repeat("\x00", n) }

func blobOf(payload string) pack.Object { return pack.Object{Kind: api.KindBlob, Payload: payload} }

func listOf(l ...item) pack.Object { return pack.Object{Kind: api.KindList, Payload: listBytes(l)} }

// itemOf is the item of an object that holds so many bytes.
func itemOf(o pack.Object, size int) item { return item{o.Kind, size, nameOf(o.Kind, o.Payload)} }

// leveled is an item of a tier.
type leveled struct {
	item
	level int
}

// reckoned is a file's root and its objects by the chapter's words, from its chunks on.
func reckoned(t *testing.T, p plan, most int, data string) (item, []pack.Object) {
	t.Helper()
	chunks, e := split.Cut(p, data)
	if e != api.OK {
		t.Fatalf("Cut: %v", e)
	}
	if len(chunks) == 0 {
		return itemOf(blobOf(""), 0), []pack.Object{blobOf("")}
	}
	var row []leveled
	var objects []pack.Object
	from := 0
	for _, c := range chunks {
		o := blobOf(data[from : from+c.Size])
		objects = append(objects, o)
		row = append(row, leveled{itemOf(o, c.Size), c.Level})
		from += c.Size
	}
	for tier := 1; len(row) > 1; tier++ {
		var next, group []leveled
		for i, x := range row {
			group = append(group, x)
			if x.level < tier && len(group) < most && i < len(row)-1 {
				continue
			}
			if len(group) > 1 {
				o, size := joined(group)
				objects = append(objects, o)
				x = leveled{itemOf(o, size), x.level}
			}
			next = append(next, x)
			group = nil
		}
		row = next
	}
	return row[0].item, firstOnes(objects)
}

// joined is the list of a group, and how many bytes it holds.
func joined(group []leveled) (o pack.Object, size int) {
	var l []item
	for _, x := range group {
		l = append(l, x.item)
		size += x.Size
	}
	return listOf(l...), size
}

// firstOnes are objects without those that are the same as one ahead of them.
func firstOnes(l []pack.Object) []pack.Object {
	var first []pack.Object
	met := map[pack.Object]bool{}
	for _, o := range l {
		if !met[o] {
			first = append(first, o)
		}
		met[o] = true
	}
	return first
}

func fileOf(t *testing.T, p plan, most int, data string) (item, []pack.Object) {
	t.Helper()
	root, l, e := object.File(p, most, data)
	if e != api.OK {
		t.Fatalf("File(%v, %d, %d bytes): %v", p, most, len(data), e)
	}
	return root, l
}

func checkFile(t *testing.T, p plan, most int, data string, wantRoot item, want ...pack.Object) {
	t.Helper()
	root, l, e := object.File(p, most, data)
	if root != wantRoot || !slices.Equal(l, want) || e != api.OK {
		t.Errorf("File(%v, %d, %d bytes): root %d of %d bytes, %d objects, %v; want %d of %d bytes, %d objects", p, most, len(data), root.Kind, root.Size, len(l), e, wantRoot.Kind, wantRoot.Size, len(want))
	}
}

func checkNoFile(t *testing.T, p plan, most int, data string, want api.Errno) {
	t.Helper()
	if root, l, e := object.File(p, most, data); root != (item{}) || len(l) != 0 || e != want {
		t.Errorf("File(%v, %d, %d bytes): %+v, %d objects, %v; want %v", p, most, len(data), root, len(l), e, want)
	}
}

// checkWhole asks of a file's objects all that P12.5 says.
func checkWhole(t *testing.T, root item, l []pack.Object, most int, data string) {
	t.Helper()
	place := map[api.Id]int{}
	for i, o := range l {
		id := nameOf(o.Kind, o.Payload)
		if _, met := place[id]; met || pack.Check(o) != api.OK {
			t.Errorf("object %d is there twice, or may not be", i)
		}
		place[id] = i
		if i > 0 && o.Kind < l[i-1].Kind {
			t.Errorf("object %d is a blob behind a list", i)
		}
		refs, e := object.Refs(o)
		if e != api.OK || len(refs) > most || o.Kind == api.KindList && len(refs) < 2 {
			t.Errorf("object %d names %d, %v", i, len(refs), e)
		}
		for _, r := range refs {
			if at, met := place[r.Id]; !met || l[at].Kind != r.Kind {
				t.Errorf("object %d names one that is not ahead of it", i)
			}
		}
	}
	used := map[int]bool{}
	var b strings.Builder
	walk(t, root, l, place, used, &b)
	if b.String() != data {
		t.Errorf("what is beneath the root has %d bytes, and is not the file's %d", b.Len(), len(data))
	}
	if len(used) != len(l) {
		t.Errorf("%d of %d objects are beneath the root", len(used), len(l))
	}
}

func walk(t *testing.T, i item, l []pack.Object, place map[api.Id]int, used map[int]bool, b *strings.Builder) {
	t.Helper()
	at, there := place[i.Id]
	if !there || l[at].Kind != i.Kind {
		t.Fatalf("an item is none of the file's objects")
	}
	used[at] = true
	from := b.Len()
	if i.Kind == api.KindBlob {
		b.WriteString(l[at].Payload)
	} else {
		kids, e := object.ReadList(l[at].Payload)
		if e != api.OK {
			t.Fatalf("object %d: %v", at, e)
		}
		for _, kid := range kids {
			walk(t, kid, l, place, used, b)
		}
	}
	if b.Len()-from != i.Size {
		t.Errorf("an item of %d bytes has %d beneath it", i.Size, b.Len()-from)
	}
}

// The chapter's examples.

func TestExampleFileOfNothing(t *testing.T) {
	checkFile(t, small, 2, "", itemOf(blobOf(""), 0), blobOf(""))
}

func TestExampleFileOfNoughts(t *testing.T) {
	b := blobOf(noughts(64))
	l := listOf(itemOf(b, 64), itemOf(b, 64))
	checkFile(t, small, 2, noughts(128), itemOf(l, 128), b, l)
}

// P12.3

func TestFileOfOneChunk(t *testing.T) {
	for _, s := range []string{"\x00", "\x00\x00", noughts(63), noughts(64)} {
		checkFile(t, small, 2, s, itemOf(blobOf(s), len(s)), blobOf(s))
		checkFile(t, small, 1024, s, itemOf(blobOf(s), len(s)), blobOf(s))
	}
}

// The chunks {2, 3} {2, 1} {1, 0}: the first tiers leave those of higher levels by themselves.
func TestFileByHand(t *testing.T) {
	a, b, c := blobOf("\x21\x00"), blobOf("ab"), blobOf("c")
	inner := listOf(itemOf(b, 2), itemOf(c, 1))
	outer := listOf(itemOf(a, 2), itemOf(inner, 3))
	checkFile(t, small, 2, "\x21\x00abc", itemOf(outer, 5), a, b, c, inner, outer)
	checkFile(t, small, 1024, "\x21\x00abc", itemOf(outer, 5), a, b, c, inner, outer)
}

func TestFileWithTheSameOnesTwice(t *testing.T) {
	b := blobOf(noughts(64))
	i := itemOf(b, 64)
	two := listOf(i, i)
	four := listOf(itemOf(two, 128), itemOf(two, 128))
	checkFile(t, small, 2, noughts(256), itemOf(four, 256), b, two, four)
	checkFile(t, small, 4, noughts(256), itemOf(listOf(i, i, i, i), 256), b, listOf(i, i, i, i))
	last := blobOf(noughts(1))
	odd := listOf(i, itemOf(last, 1))
	checkFile(t, small, 2, noughts(193), itemOf(listOf(itemOf(two, 128), itemOf(odd, 65)), 193), b, last, two, odd, listOf(itemOf(two, 128), itemOf(odd, 65)))
	alone := listOf(itemOf(two, 128), itemOf(last, 1))
	checkFile(t, small, 2, noughts(129), itemOf(alone, 129), b, last, two, alone)
}

func TestFileWithTheMostKids(t *testing.T) {
	i := itemOf(blobOf(noughts(64)), 64)
	full := listOf(slices.Repeat([]item{i}, 1024)...)
	checkFile(t, small, 1024, noughts(1024*64), itemOf(full, 65536), blobOf(noughts(64)), full)
	more := listOf(itemOf(full, 65536), i)
	checkFile(t, small, 1024, noughts(1025*64), itemOf(more, 65600), blobOf(noughts(64)), full, more)
	nearly := listOf(slices.Repeat([]item{i}, 1023)...)
	checkFile(t, small, 1023, noughts(1023*64), itemOf(nearly, 65472), blobOf(noughts(64)), nearly)
}

// texts are such as are cut in many ways, or hardly at all.
func texts(r *rand.Rand) []string {
	l := []string{"", "a", "\x21", "\x21\x00", "hello, world", strings.Repeat("\x21\x00", 50), strings.Repeat("ab", 300), noughts(65), noughts(1000), strings.Repeat("\xff", 777), strings.Repeat("the same line again\n", 100)}
	for _, n := range []int{2, 10, 63, 64, 65, 100, 1000, 5000} {
		l = append(l, some(r, n), strings.Repeat(some(r, n/4+1), 4))
	}
	return l
}

func plans() []plan {
	return []plan{small, {Bits: 4, Fan: 1, Most: 64}, {Bits: 4, Fan: 8, Most: 65536}, {Bits: 5, Fan: 3, Most: 100}, {Bits: 8, Fan: 1, Most: 512}, {Bits: 16, Fan: 8, Most: 64}, {Bits: 16, Fan: 1, Most: 65536}}
}

func TestFilesByTheChaptersWords(t *testing.T) {
	for _, data := range texts(rand.New(rand.NewSource(3))) {
		for _, p := range plans() {
			for _, most := range []int{2, 3, 4, 7, 100, 1023, 1024} {
				root, l := reckoned(t, p, most, data)
				checkFile(t, p, most, data, root, l...)
				checkWhole(t, root, l, most, data)
			}
		}
	}
}

// P12.5

func TestFileIsItsObjects(t *testing.T) {
	r := rand.New(rand.NewSource(4))
	for range 150 {
		data := some(r, r.Intn(1<<r.Intn(15)))
		if r.Intn(2) == 0 {
			data = strings.Repeat(data, 1+r.Intn(4))
		}
		p := plan{Bits: 4 + r.Intn(13), Fan: 1 + r.Intn(8), Most: 64 + r.Intn(1<<r.Intn(16))}
		most := 2 + r.Intn(1<<r.Intn(10))
		root, l := fileOf(t, p, most, data)
		checkWhole(t, root, l, most, data)
		again, other := fileOf(t, p, most, strings.Clone(data))
		if again != root || !slices.Equal(other, l) {
			t.Errorf("the same bytes have other objects")
		}
	}
}

// P12.6

func TestBlobsAreShared(t *testing.T) {
	r := rand.New(rand.NewSource(5))
	for range 150 {
		data := some(r, 1+r.Intn(1<<r.Intn(13)))
		more := data + some(r, r.Intn(300))
		p := plans()[r.Intn(len(plans()))]
		chunks, _ := split.Cut(p, data)
		_, l := fileOf(t, p, 2+r.Intn(20), more)
		from := 0
		for i, c := range chunks[:len(chunks)-1] {
			if !slices.Contains(l, blobOf(data[from:from+c.Size])) {
				t.Errorf("chunk %d of %d is no blob of the longer file", i, len(chunks))
			}
			from += c.Size
		}
	}
}

// Errors and limits

func TestFileRefusesPlans(t *testing.T) {
	bad := [][3]int{{}, {3, 2, 64}, {17, 2, 64}, {4, 0, 64}, {4, 9, 64}, {4, 2, 63}, {4, 2, 65537}, {-4, -2, -64}, {math.MaxInt, math.MaxInt, math.MaxInt}, {math.MinInt, 2, 64}}
	for _, x := range bad {
		p := plan{Bits: x[0], Fan: x[1], Most: x[2]}
		for _, most := range []int{2, 1, 1024, 1025, -1} {
			for _, n := range []int{0, 1, 1000, 1<<20 + 1} {
				checkNoFile(t, p, most, noughts(n), api.ErrPlan)
			}
		}
	}
}

func TestFileRefusesMost(t *testing.T) {
	for _, most := range []int{1, 0, -1, -2, 1025, 1026, 65536, math.MaxInt, math.MinInt} {
		for _, n := range []int{0, 1, 64, 65, 1000, 1 << 20, 1<<20 + 1} {
			checkNoFile(t, small, most, noughts(n), api.ErrArg)
		}
	}
}

func TestFileRefusesData(t *testing.T) {
	for _, n := range []int{1<<20 + 1, 1<<20 + 64, 1 << 21, 1 << 24} {
		for _, p := range plans() {
			checkNoFile(t, p, 2, noughts(n), api.ErrArg)
			checkNoFile(t, p, 1024, noughts(n), api.ErrArg)
		}
	}
}

func TestGreatestFiles(t *testing.T) {
	r := rand.New(rand.NewSource(6))
	for _, data := range []string{noughts(1 << 20), strings.Repeat("\x21\x00", 1<<19), some(r, 1<<20), some(r, 1<<20-1)} {
		for _, x := range []struct {
			p    plan
			most int
		}{{small, 2}, {small, 1024}, {plan{Bits: 13, Fan: 2, Most: 65536}, 3}, {plan{Bits: 16, Fan: 1, Most: 64}, 1024}} {
			root, l := reckoned(t, x.p, x.most, data)
			if root.Kind != api.KindList || root.Size != len(data) {
				t.Errorf("the root is %d of %d bytes", root.Kind, root.Size)
			}
			checkFile(t, x.p, x.most, data, root, l...)
			checkWhole(t, root, l, x.most, data)
		}
	}
}

// A file's objects, as they are, stand in a pack.
func TestFileInAPack(t *testing.T) {
	for _, data := range texts(rand.New(rand.NewSource(7))) {
		_, l := fileOf(t, small, 3, data)
		if _, e := pack.Build(l); e != api.OK {
			t.Errorf("Build of a file's %d objects: %v", len(l), e)
		}
	}
}

// R2 and R3

func TestFilesAnswersAreApart(t *testing.T) {
	data := strings.Repeat("some bytes, which are cut ", 40)
	want, objects := reckoned(t, small, 3, data)
	_, l := fileOf(t, small, 3, data)
	for _, o := range l[len(l):cap(l)] {
		if o != (pack.Object{}) {
			t.Errorf("behind the objects stands one of kind %d", o.Kind)
		}
	}
	clear(l[:cap(l)])
	checkFile(t, small, 3, data, want, objects...)
}

// Whatever the bytes, the plan and most: the file's objects are those of the chapter's words, or the error is.
func FuzzFile(f *testing.F) {
	for i, data := range texts(rand.New(rand.NewSource(8))) {
		f.Add([]byte(data), 4+i%13, 1+i%8, 64+i, 2+i)
	}
	f.Add([]byte("x"), 3, 1, 64, 2)
	f.Add([]byte("x"), 4, 1, 64, 1025)
	f.Fuzz(func(t *testing.T, b []byte, bits, fan, size, most int) {
		p, data := plan{Bits: bits, Fan: fan, Most: size}, string(b)
		if bits < 4 || bits > 16 || fan < 1 || fan > 8 || size < 64 || size > 65536 {
			checkNoFile(t, p, most, data, api.ErrPlan)
			return
		}
		if most < 2 || most > 1024 || len(data) > 1<<20 {
			checkNoFile(t, p, most, data, api.ErrArg)
			return
		}
		root, l := reckoned(t, p, most, data)
		checkFile(t, p, most, data, root, l...)
		checkWhole(t, root, l, most, data)
	})
}
