package object

import (
	"muniment/api"
	"muniment/digest"
	"muniment/pack"
	"muniment/split"
)

// File is a file's bytes as objects.
func File(p split.Plan, most int, data string) (Item, []pack.Object, api.Errno) {
	chunks, e := split.Cut(p, data)
	if e != api.OK {
		return Item{}, nil, e
	}
	nodes, e := split.Tiers(levels(chunks), most)
	if e != api.OK {
		return Item{}, nil, e
	}
	m := maker{met: map[pack.Object]struct{}{}}
	m.makeBlobs(chunks, data)
	m.makeLists(nodes)
	return m.items[len(m.items)-1], m.objects, api.OK
}

func levels(chunks []split.Chunk) []int {
	l := make([]int, len(chunks))
	for i, c := range chunks {
		l[i] = c.Level
	}
	return l
}

// maker makes a file's objects, each once.
type maker struct {
	items   []Item // of the chunks and then of the nodes, by the numbers that split.Tiers gives them; the last one is the root
	objects []pack.Object
	met     map[pack.Object]struct{} // not by their names: unlike objects that have one name are not the same
}

func (m *maker) makeBlobs(chunks []split.Chunk, data string) {
	if len(chunks) == 0 {
		m.add(blob(""))
	}
	for _, c := range chunks {
		m.add(blob(data[:c.Size]))
		data = data[c.Size:]
	}
}

func (m *maker) makeLists(nodes []split.Node) {
	for _, n := range nodes {
		l := make(list, len(n.Kids))
		for i, kid := range n.Kids {
			l[i] = m.items[kid]
		}
		m.add(l)
	}
}

// add goes on with the object that says c, a blob or a list.
func (m *maker) add(c content) {
	var i Item
	switch x := c.(type) {
	case blob:
		i.Kind, i.Size = api.KindBlob, len(x)
	case list:
		i.Kind, i.Size = api.KindList, x.size()
	}
	o := pack.Object{Kind: i.Kind, Payload: c.payload()}
	i.Id = digest.Of(o.Kind, o.Payload)
	m.items = append(m.items, i)
	m.keep(o)
}

// keep leaves out what is the same as one ahead of it.
func (m *maker) keep(o pack.Object) {
	if _, isMet := m.met[o]; !isMet {
		m.met[o] = struct{}{}
		m.objects = append(m.objects, o)
	}
}
