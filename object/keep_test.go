package object

import (
	"slices"
	"testing"

	"muniment/pack"
)

// No two unlike objects of one name are known, so no file can show that both are told. It is asked of what keeps them, which is handed no name, and has no map by names.
var _ map[pack.Object]struct{} = maker{}.met

func TestKeptIsWhatIsUnlike(t *testing.T) {
	m := maker{met: map[pack.Object]struct{}{}}
	for _, o := range []pack.Object{{Kind: 1, Payload: "a"}, {Kind: 1, Payload: "b"}, {Kind: 2, Payload: "a"}, {Kind: 1, Payload: "b"}, {Kind: 1}, {Kind: 2, Payload: "a"}, {Kind: 1, Payload: "a"}, {Kind: 2}} {
		m.keep(o)
	}
	want := []pack.Object{{Kind: 1, Payload: "a"}, {Kind: 1, Payload: "b"}, {Kind: 2, Payload: "a"}, {Kind: 1}, {Kind: 2}}
	if !slices.Equal(m.objects, want) {
		t.Errorf("kept: %v, want %v", m.objects, want)
	}
}
