// Package rules asks what holds for the project as a whole: the numbers that all layers share, and which packages a layer may call.
package rules

import (
	"go/parser"
	"go/token"
	"path/filepath"
	"slices"
	"strings"
	"testing"

	"muniment/api"
)

func TestErrorsNumbers(t *testing.T) {
	for _, c := range []struct {
		e    api.Errno
		want int
	}{
		{api.OK, 0}, {api.ErrArg, 1}, {api.ErrNil, 2}, {api.ErrFull, 3}, {api.ErrForm, 4}, {api.ErrDone, 5}, {api.ErrNone, 6},
		{api.ErrThere, 7}, {api.ErrDown, 8}, {api.ErrCorrupt, 9}, {api.ErrName, 10}, {api.ErrKind, 11},
		{api.ErrSingular, 60}, {api.ErrLost, 70}, {api.ErrPlan, 90},
	} {
		if int(c.e) != c.want {
			t.Errorf("an error has the number %d, want %d", int(c.e), c.want)
		}
	}
	var _ error = api.ErrArg
}

func TestLimits(t *testing.T) {
	for _, c := range []struct {
		what      string
		got, want int
	}{
		{"MaxData", api.MaxData, 1048576}, {"MaxPayload", api.MaxPayload, 2097152}, {"MaxName", api.MaxName, 255},
		{"MaxRunes", api.MaxRunes, 64}, {"MaxDepth", api.MaxDepth, 16}, {"MaxEntries", api.MaxEntries, 256},
		{"MaxFiles", api.MaxFiles, 4096}, {"MaxPack", api.MaxPack, 67108864}, {"MaxObjects", api.MaxObjects, 65536},
		{"MaxBranch", api.MaxBranch, 64}, {"MaxLog", api.MaxLog, 4096}, {"MaxTick", api.MaxTick, 1099511627776},
	} {
		if c.got != c.want {
			t.Errorf("%s is %d, want %d", c.what, c.got, c.want)
		}
	}
}

// layers are all packages, each of which may call those that stand ahead of it.
func layers() []string {
	return strings.Fields("api wire digest frame names disk field shards roll split attrs pack object idx bloom midx find parity source statix refs save view check gc vault console")
}

func library() []string {
	return strings.Fields("bytes cmp container/heap errors iter maps math math/bits slices sort strconv strings sync sync/atomic unicode unicode/utf8")
}

func TestImports(t *testing.T) {
	for i, layer := range layers() {
		files, err := filepath.Glob(filepath.Join("..", layer, "*.go"))
		if err != nil || len(files) == 0 {
			t.Errorf("layer %s: %d files, %v", layer, len(files), err)
		}
		for _, f := range files {
			if !strings.HasSuffix(f, "_test.go") {
				checkImports(t, f, layers()[:i])
			}
		}
	}
}

func checkImports(t *testing.T, file string, below []string) {
	a, err := parser.ParseFile(token.NewFileSet(), file, nil, parser.ImportsOnly)
	if err != nil {
		t.Fatal(err)
	}
	for _, x := range a.Imports {
		path := strings.Trim(x.Path.Value, `"`)
		own, isOwn := strings.CutPrefix(path, "muniment/")
		if isOwn && slices.Contains(layers(), own) && !slices.Contains(below, own) {
			t.Errorf("%s imports %s, which is no layer below", file, path)
		}
		if !isOwn && !slices.Contains(library(), path) {
			t.Errorf("%s imports %s, which the program does without", file, path)
		}
	}
}
