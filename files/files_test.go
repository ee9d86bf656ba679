package files

import (
	"errors"
	"fmt"
	"math"
	"math/big"
	"reflect"
	"regexp"
	"slices"
	"strings"
	"testing"

	"cavil/api"
)

func fl(name, text string) api.File { return api.File{Name: name, Text: []byte(text)} }

func pk(path string, files ...api.File) api.Package { return api.Package{Path: path, Files: files} }

func list(l ...api.Package) []api.Package { return l }

// told is the packages as a text, without the difference between a nil and an empty slice.
func told(l []api.Package) string {
	var s strings.Builder
	for _, p := range l {
		fmt.Fprintf(&s, "%q:", p.Path)
		for _, f := range p.Files {
			fmt.Fprintf(&s, " %q=%q", f.Name, f.Text)
		}
		s.WriteString("; ")
	}
	return s.String()
}

// words calls f with each text of at most n of the characters.
func words(n int, characters string, f func(s string)) {
	var grow func(s string)
	grow = func(s string) {
		f(s)
		for i := 0; i < len(characters) && len(s) < n; i++ {
			grow(s + characters[i:i+1])
		}
	}
	grow("")
}

// sequences calls f with each list of at most n of the elements.
func sequences[T any](n int, all []T, f func(l []T)) {
	var grow func(l []T)
	grow = func(l []T) {
		f(slices.Clone(l))
		for i := 0; i < len(all) && len(l) < n; i++ {
			grow(append(slices.Clone(l), all[i]))
		}
	}
	grow(nil)
}

// numbered is n file names or package paths, each of its own.
func numbered(n int) []string {
	var l []string
	for i := range n {
		l = append(l, fmt.Sprintf("n%d", i))
	}
	return l
}

// filled is a package with n files.
func filled(path string, n int) api.Package {
	p := pk(path)
	for _, name := range numbered(n) {
		p.Files = append(p.Files, fl(name, ""))
	}
	return p
}

func expectName(t *testing.T, s string, want bool) {
	t.Helper()
	if Name(s) != want {
		t.Errorf("Name(%q) = %v", s, !want)
	}
}

func expectPath(t *testing.T, s string, want bool) {
	t.Helper()
	if Path(s) != want {
		t.Errorf("Path(%q) = %v", s, !want)
	}
}

func expectGood(t *testing.T, l ...api.Package) {
	t.Helper()
	if e := Check(l); e != nil {
		t.Errorf("%d packages: %#v", len(l), e)
	}
}

// expectLack expects the error in an api.Lack with that name, as it is and as errors.Is and errors.As find it.
func expectLack(t *testing.T, name string, want api.Errno, l ...api.Package) {
	t.Helper()
	e := Check(l)
	var lack api.Lack
	if e != (api.Lack{Name: name, Err: want}) || !errors.Is(e, want) || !errors.As(e, &lack) || lack.Name != name {
		t.Errorf("%d packages: %#v; want %#v", len(l), e, api.Lack{Name: name, Err: want})
	}
}

// expectTooMany expects the error that is about no name.
func expectTooMany(t *testing.T, l ...api.Package) {
	t.Helper()
	if e := Check(l); e != api.ErrLong {
		t.Errorf("%d packages: %#v; want %#v", len(l), e, api.ErrLong)
	}
}

func expectOrder(t *testing.T, l, want []api.Package) {
	t.Helper()
	if got := Order(l); told(got) != told(want) {
		t.Errorf("Order(%s) = %s; want %s", told(l), told(got), told(want))
	}
}

func expectFind(t *testing.T, l []api.Package, path, name, text string) {
	t.Helper()
	if f, e := Find(l, path, name); e != nil || f.Name != name || string(f.Text) != text {
		t.Errorf("Find(%s, %q, %q) = %q, %v; want %q", told(l), path, name, f, e, text)
	}
}

func expectReplace(t *testing.T, l []api.Package, path, name, text string, want []api.Package) {
	t.Helper()
	if got, e := Replace(l, path, name, []byte(text)); e != nil || told(got) != told(want) {
		t.Errorf("Replace(%s, %q, %q, %q) = %s, %v; want %s", told(l), path, name, text, told(got), e, told(want))
	}
}

// expectNone expects that neither Find nor Replace finds the file, with nothing beside the error.
func expectNone(t *testing.T, l []api.Package, path, name string) {
	t.Helper()
	if f, e := Find(l, path, name); !errors.Is(e, api.ErrNone) || f.Name != "" || len(f.Text) != 0 {
		t.Errorf("Find(%s, %q, %q) = %q, %v", told(l), path, name, f, e)
	}
	if got, e := Replace(l, path, name, []byte("new")); !errors.Is(e, api.ErrNone) || len(got) != 0 {
		t.Errorf("Replace(%s, %q, %q) = %s, %v", told(l), path, name, told(got), e)
	}
}

func expectPermute(t *testing.T, l []api.Package, pick []int, want []api.Package) {
	t.Helper()
	if got := Permute(l, pick); told(got) != told(want) {
		t.Errorf("Permute(%s, %v) = %s; want %s", told(l), pick, told(got), told(want))
	}
}

// P5.1: the length and the ends of a file name.
func TestName(t *testing.T) {
	for _, s := range []string{"a", "z", "a.go", "a_1.go", "a.", "a..", "a_", "a0", "z9_.", "a.b.c", "go.mod", "abcdefghijklmnopqrstuvwxyz_.0123456789"} {
		expectName(t, s, true)
	}
	for _, s := range []string{"", "0", "9a", "_", "_a", ".", "..", ".a", "A", "Z", "aB", "a B", " a", "a ", "a\n", "a/b", "/a", "a/", "a-b", "a\\b", "a\x00", "\x00", "é", "aé", "a\x80", "\xffa", "aａ", "\ufeffa"} {
		expectName(t, s, false)
	}
	for n := range 200 {
		expectName(t, strings.Repeat("a", n), 1 <= n && n <= 64)
		expectName(t, "a"+strings.Repeat(".", n), n <= 63)
		expectName(t, "a"+strings.Repeat("_", n)+"0", n <= 62)
	}
	expectName(t, strings.Repeat("a", 63)+"A", false)
	expectName(t, strings.Repeat("a", 62)+"é", false)
	// A character is not a byte, but what has other ones than those is no name anyway.
	expectName(t, strings.Repeat("é", 32), false)
	expectName(t, strings.Repeat("a", api.MaxFile), false)
}

// P5.1: the length and the parts of a package path.
func TestPath(t *testing.T) {
	for _, s := range []string{"a", "z9", "a/b", "a/b/c", "a_/b_2", "net/http", "a/a/a", "abcdefghijklmnopqrstuvwxyz_0123456789/x"} {
		expectPath(t, s, true)
	}
	for _, s := range []string{"", "/", "//", "/a", "a/", "a//b", "/a/b", "a/b/", "a/b//c", "//a", "a//", "0", "_", "0a/b", "a/0b", "a/_b", "a/b/9", ".", "a.b", "a/b.c", "a.b/c", "a/.", "./a", "../a", "a/b.", "A", "a/B", "A/b", "a b", "a/ b", "a\\b", "a-b", "a\n", "é", "a/é", "a/b\x80", "a/\xff"} {
		expectPath(t, s, false)
	}
	// Parts of 64 and 65 characters, and all of 128 and 129 bytes.
	part := func(n int) string { return strings.Repeat("a", n) }
	expectPath(t, part(64), true)
	expectPath(t, part(65), false)
	expectPath(t, part(64)+"/b", true)
	expectPath(t, part(65)+"/b", false)
	expectPath(t, "b/"+part(64), true)
	expectPath(t, "b/"+part(65), false)
	expectPath(t, "b/"+part(64)+"/c", true)
	expectPath(t, "b/"+part(65)+"/c", false)
	expectPath(t, part(64)+"/"+part(63), true)
	expectPath(t, part(63)+"/"+part(64), true)
	expectPath(t, part(64)+"/"+part(64), false)
	expectPath(t, part(62)+"/"+part(65), false)
	expectPath(t, strings.Repeat("a/", 63)+"ab", true)
	expectPath(t, strings.Repeat("a/", 64)+"a", false)
	expectPath(t, strings.Repeat("a/", 64), false)
	expectPath(t, strings.Repeat("ab/", 42)+"ab", true)
	expectPath(t, strings.Repeat("ab/", 42)+"abc", false)
	expectPath(t, strings.Repeat("a/", api.MaxFile/2)+"a", false)
}

// P5.1: all short texts of some characters of each sort, and every byte at every place, against the form as an expression.
func TestNameAndPathEveryText(t *testing.T) {
	name := regexp.MustCompile(`\A[a-z][a-z0-9_.]{0,63}\z`)
	path := regexp.MustCompile(`\A[a-z][a-z0-9_]{0,63}(/[a-z][a-z0-9_]{0,63})*\z`)
	expect := func(s string) {
		expectName(t, s, name.MatchString(s))
		expectPath(t, s, len(s) <= 128 && path.MatchString(s))
	}
	words(5, "az09_./A\x80", expect)
	for c := range 256 {
		b := string([]byte{byte(c)})
		for _, s := range []string{b, b + "a", "a" + b, "a" + b + "a", "a/" + b, "a/" + b + "a", "a/a" + b, strings.Repeat("a", 63) + b, "b/" + strings.Repeat("a", 63) + b} {
			expect(s)
		}
	}
}

// P5.2: packages without an error.
func TestCheck(t *testing.T) {
	expectGood(t)
	expectGood(t, pk("a"))
	expectGood(t, pk("a"), pk("b"), pk("a/b"), pk("b/a"))
	expectGood(t, pk("a", fl("x", "")))
	expectGood(t, pk("a", fl("x", "\x80\xff"), fl("y", "not a file")))
	expectGood(t, pk("b", fl("y", "1"), fl("x", "2")), pk("a", fl("z", "3")))
	// The same name in two packages; a name that is a path too; names of which one begins with the other.
	expectGood(t, pk("a", fl("x", "")), pk("b", fl("x", "")))
	expectGood(t, pk("a", fl("a", "")), pk("b", fl("a", ""), fl("b", "")))
	expectGood(t, pk("a"), pk("aa"), pk("a/a", fl("a", ""), fl("aa", ""), fl("a.a", ""), fl("a.", ""), fl("a_", ""), fl("a0", "")))
}

// P5.2: one error, and each of its kinds.
func TestCheckOneFault(t *testing.T) {
	for _, path := range []string{"", "A", "a.b", "a//b", "/a", "a/", "0", "é", strings.Repeat("a", 65), strings.Repeat("a/", 64) + "a"} {
		expectLack(t, path, api.ErrForm, pk(path))
		expectLack(t, path, api.ErrForm, pk("a"), pk(path), pk("b"))
	}
	for _, name := range []string{"", "X", "a/b", ".go", "0", "_", "é", strings.Repeat("a", 65)} {
		expectLack(t, name, api.ErrForm, pk("a", fl(name, "")))
		expectLack(t, name, api.ErrForm, pk("a", fl("x", ""), fl(name, ""), fl("y", "")))
		expectLack(t, name, api.ErrForm, pk("a", fl("x", "")), pk("b", fl(name, "")))
	}
	expectLack(t, "a", api.ErrDup, pk("a"), pk("a"))
	expectLack(t, "x", api.ErrDup, pk("a", fl("x", ""), fl("x", "")))
	expectLack(t, "x", api.ErrDup, pk("a", fl("x", "")), pk("b", fl("x", "1"), fl("x", "2")))
	// They are no neighbours.
	expectLack(t, "a", api.ErrDup, pk("a"), pk("b"), pk("c"), pk("a"))
	expectLack(t, "b", api.ErrDup, pk("a"), pk("b"), pk("c"), pk("b"), pk("a"))
	expectLack(t, "x", api.ErrDup, pk("a", fl("x", ""), fl("y", ""), fl("z", ""), fl("x", "")))
	expectLack(t, "a/b", api.ErrDup, pk("a/b", fl("x", "")), pk("b"), pk("a"), pk("a/b", fl("y", "")))
}

// P5.2: of several errors the first one.
func TestCheckFirstFault(t *testing.T) {
	long := string(make([]byte, api.MaxFile+1))
	// Of one package: its path, then its files. A path that is none is none again, and no double.
	expectLack(t, "A", api.ErrForm, pk("A", fl("X", "")))
	expectLack(t, "A", api.ErrForm, pk("A"), pk("A"))
	expectLack(t, "a", api.ErrDup, pk("a"), pk("a", fl("X", "")))
	expectLack(t, "a", api.ErrDup, pk("a", fl("x", "")), pk("a", fl("x", ""), fl("x", "")))
	// Of one file: its form, then a double, then its length.
	expectLack(t, "X", api.ErrForm, pk("a", fl("X", ""), fl("X", "")))
	expectLack(t, "X", api.ErrForm, pk("a", fl("X", long)))
	expectLack(t, "x", api.ErrDup, pk("a", fl("x", ""), fl("x", long)))
	expectLack(t, "x", api.ErrLong, pk("a", fl("x", long), fl("x", "")))
	// Of several packages and files: in their order, all files of a package ahead of the next path.
	expectLack(t, "A", api.ErrForm, pk("A"), pk("a"), pk("a"))
	expectLack(t, "a", api.ErrDup, pk("a"), pk("a"), pk("A"))
	expectLack(t, "X", api.ErrForm, pk("a", fl("X", "")), pk("A"))
	expectLack(t, "X", api.ErrForm, pk("a", fl("X", "")), pk("a"))
	expectLack(t, "x", api.ErrDup, pk("a", fl("x", ""), fl("x", ""), fl("X", "")))
	expectLack(t, "X", api.ErrForm, pk("a", fl("x", ""), fl("X", ""), fl("x", "")))
	expectLack(t, "y", api.ErrLong, pk("a", fl("x", ""), fl("y", long), fl("x", "")), pk("a"))
	expectLack(t, "x", api.ErrLong, pk("b", fl("x", long)), pk("a", fl("X", "")))
}

// P5.2: the length of a text.
func TestCheckText(t *testing.T) {
	most := string(make([]byte, api.MaxFile))
	expectGood(t, pk("a", fl("x", most)))
	expectGood(t, pk("a", fl("x", most), fl("y", most)), pk("b", fl("x", most)))
	expectLack(t, "x", api.ErrLong, pk("a", fl("x", most+"\n")))
	expectLack(t, "y", api.ErrLong, pk("a", fl("x", most), fl("y", most+"\n")))
	expectLack(t, "z", api.ErrLong, pk("a", fl("x", most)), pk("b", fl("y", ""), fl("z", most+most)))
}

// P5.2: the numbers of packages and of files come ahead of everything else, and are about no name.
func TestCheckNumbers(t *testing.T) {
	var l []api.Package
	for _, path := range numbered(4097) {
		l = append(l, pk(path))
	}
	expectGood(t, l[:4096]...)
	expectTooMany(t, l...)
	expectTooMany(t, make([]api.Package, 4097)...)
	expectLack(t, "", api.ErrForm, make([]api.Package, 4096)...)
	expectLack(t, "n0", api.ErrDup, append(l[:4095:4095], pk("n0"))...)
	expectLack(t, "n4095", api.ErrDup, append(l[1:4096:4096], pk("n4095"))...)
	expectTooMany(t, append(l[:4096:4096], pk("n0"))...)

	expectGood(t, filled("a", 4096))
	expectGood(t, filled("a", 4096), filled("b", 4096))
	expectTooMany(t, filled("a", 4097))
	expectTooMany(t, pk("a"), pk("b"), filled("c", 4097))
	expectTooMany(t, filled("a", 4097), pk("b"))
	expectTooMany(t, pk("a", make([]api.File, 4097)...))
	expectLack(t, "", api.ErrForm, pk("a", make([]api.File, 4096)...))
	last := filled("a", 4096)
	last.Files[4095].Name = "n0"
	expectLack(t, "n0", api.ErrDup, last)
	// A faulty package ahead of it, or the same one.
	expectTooMany(t, pk("A"), filled("a", 4097))
	expectTooMany(t, pk("a"), pk("a"), filled("b", 4097))
	expectTooMany(t, pk("a", fl("X", "")), filled("b", 4097))
	expectTooMany(t, pk("a", fl("x", string(make([]byte, api.MaxFile+1)))), filled("b", 4097))
	expectTooMany(t, filled("A", 4097))
	// Each package has a number of its own.
	for i := range l[:4096] {
		l[i].Files = []api.File{fl("x", ""), fl("y", "")}
	}
	expectGood(t, l[:4096]...)
}

// faulty is what P5.2 says of few packages, word by word; nil if they are without an error.
func faulty(l []api.Package) error {
	earlier := func(n int, same func(i int) bool) bool {
		for i := range n {
			if same(i) {
				return true
			}
		}
		return false
	}
	for i, p := range l {
		switch {
		case !Path(p.Path):
			return api.Lack{Name: p.Path, Err: api.ErrForm}
		case earlier(i, func(k int) bool { return l[k].Path == p.Path }):
			return api.Lack{Name: p.Path, Err: api.ErrDup}
		}
		for j, f := range p.Files {
			switch {
			case !Name(f.Name):
				return api.Lack{Name: f.Name, Err: api.ErrForm}
			case earlier(j, func(k int) bool { return p.Files[k].Name == f.Name }):
				return api.Lack{Name: f.Name, Err: api.ErrDup}
			case len(f.Text) > 1<<24:
				return api.Lack{Name: f.Name, Err: api.ErrLong}
			}
		}
	}
	return nil
}

// P5.2: all lists of few packages with few files, good and faulty ones.
func TestCheckEveryList(t *testing.T) {
	expect := func(l []api.Package) {
		if e, want := Check(l), faulty(l); (e == nil) != (want == nil) || e != nil && e != want {
			t.Errorf("%d packages: %#v; want %#v", len(l), e, want)
		}
	}
	long := make([]byte, api.MaxFile+1)
	var files []api.File
	for _, name := range []string{"x", "y", "X"} {
		files = append(files, api.File{Name: name, Text: long[:api.MaxFile]}, api.File{Name: name, Text: long})
	}
	packages := func(n int) []api.Package {
		var all []api.Package
		sequences(n, files, func(l []api.File) { all = append(all, pk("a", l...), pk("b", l...), pk("A", l...)) })
		return all
	}
	sequences(1, packages(4), expect)
	sequences(2, packages(2), expect)
	sequences(3, packages(1), expect)
}

// P5.3
func TestOrder(t *testing.T) {
	expectOrder(t, nil, nil)
	expectOrder(t, list(), nil)
	expectOrder(t, list(pk("a")), list(pk("a")))
	expectOrder(t, list(pk("b"), pk("a")), list(pk("a"), pk("b")))
	expectOrder(t, list(pk("b", fl("y", "1"), fl("x", "2")), pk("a", fl("z", "3"))), list(pk("a", fl("z", "3")), pk("b", fl("x", "2"), fl("y", "1"))))
	expectOrder(t, list(pk("a", fl("z", ""), fl("x", "1"), fl("y", "2"), fl("w", ""))), list(pk("a", fl("w", ""), fl("x", "1"), fl("y", "2"), fl("z", ""))))
	// What has the same name keeps its order, whatever else it has.
	expectOrder(t, list(pk("b", fl("x", "1")), pk("a"), pk("b"), pk("a", fl("y", "2")), pk("b", fl("a", "3"))), list(pk("a"), pk("a", fl("y", "2")), pk("b", fl("x", "1")), pk("b"), pk("b", fl("a", "3"))))
	expectOrder(t, list(pk("a", fl("y", "5"), fl("x", "3"), fl("y", "4"), fl("x", "1"), fl("x", "2"))), list(pk("a", fl("x", "3"), fl("x", "1"), fl("x", "2"), fl("y", "5"), fl("y", "4"))))
}

// P5.3: the bytes count, not what they mean.
func TestOrderBytes(t *testing.T) {
	for _, names := range [][]string{
		{"a", "aa", "aaa", "ab", "b"},
		{"x", "x.", "x.go", "x0", "x10", "x2", "x9", "x_", "x_test.go", "xa"},
		{"a", "a/b", "a/b/c", "a/c", "a0", "a0/b", "a_", "a_/b", "aa/b"},
		{"a", "a\x00", "a!", "a-b/c", "a.b", "a/", "a/b", "a/b.c", "a/b/c", "a0"},
		{"", "\x00", " ", "!", "A", "Z", "_", "a", "z", "z\x00", "z\x7f", "z\x80", "z\xff", "{", "\x7f", "\x80", "é", "\uffff", "\U0001f600", "\xff"},
	} {
		var packages, back []api.Package
		var files []api.File
		for _, name := range names {
			files = append(files, fl(name, name))
			packages = append(packages, pk(name))
		}
		for i := range names {
			back = append(back, packages[len(names)-1-i])
		}
		expectOrder(t, packages, packages)
		expectOrder(t, back, packages)
		expectOrder(t, list(pk("p", files...)), list(pk("p", files...)))
		slices.Reverse(files)
		got := Order(list(pk("p", files...)))[0].Files
		slices.Reverse(files)
		if told(list(pk("p", got...))) != told(list(pk("p", files...))) {
			t.Errorf("%q; want %q", got, names)
		}
	}
}

// inserted is l sorted stably, as P5.3 says, by putting each element behind those that are not greater.
func inserted[T any](l []T, name func(x T) string) []T {
	var sorted []T
	for _, x := range l {
		at := 0
		for i := range sorted {
			if name(sorted[i]) <= name(x) {
				at = i + 1
			}
		}
		sorted = slices.Insert(sorted, at, x)
	}
	return sorted
}

// ordered is what P5.3 says of l, word by word.
func ordered(l []api.Package) []api.Package {
	sorted := inserted(l, func(p api.Package) string { return p.Path })
	for i := range sorted {
		sorted[i].Files = inserted(sorted[i].Files, func(f api.File) string { return f.Name })
	}
	return sorted
}

// P5.3: all lists of up to five packages, and of up to five files, with some equal names.
func TestOrderEveryList(t *testing.T) {
	sequences(5, []string{"a", "a_", "b", "c"}, func(names []string) {
		var packages []api.Package
		var files []api.File
		for i, name := range names {
			mark := string(rune('0' + i))
			files = append(files, fl(name, mark))
			packages = append(packages, pk(name, fl("y", mark), fl("x", mark)))
		}
		expectOrder(t, packages, ordered(packages))
		expectOrder(t, list(pk("p", files...)), ordered(list(pk("p", files...))))
	})
}

// P5.3: long lists, with many that are equal.
func TestOrderLong(t *testing.T) {
	var l []api.Package
	for i := range 4096 {
		// An odd factor visits each number below 4096 once.
		at := i * 2741 % 4096
		l = append(l, pk(fmt.Sprint("n", at%100), fl("x", fmt.Sprint(at)), fl("w", "")))
	}
	expectOrder(t, l, ordered(l))
	p := pk("p")
	for _, x := range l {
		p.Files = append(p.Files, api.File{Name: x.Path, Text: x.Files[0].Text})
	}
	expectOrder(t, list(p), ordered(list(p)))
}

// P5.4
func TestFind(t *testing.T) {
	l := list(pk("b", fl("y", "1"), fl("x", "2")), pk("a", fl("z", "3"), fl("x", "4"), fl("e", "")), pk("c"))
	expectFind(t, l, "b", "y", "1")
	expectFind(t, l, "b", "x", "2")
	expectFind(t, l, "a", "z", "3")
	expectFind(t, l, "a", "x", "4")
	expectFind(t, l, "a", "e", "")
	for _, path := range []string{"", "A", "ab", "c", "d", "a/x", "b/", "\x80"} {
		expectNone(t, l, path, "x")
		expectNone(t, nil, path, "x")
	}
	for _, name := range []string{"", "X", "w", "zz", "a", "b/x", "x ", "\x80"} {
		expectNone(t, l, "a", name)
	}
	// It is there, but in another package.
	expectNone(t, l, "a", "y")
	expectNone(t, l, "b", "z")
	// Path and name stand for themselves.
	expectNone(t, l, "x", "a")
	// They need no form.
	expectFind(t, list(pk("", fl("", "1"))), "", "", "1")
	expectFind(t, list(pk("A.b", fl("/\xff", "1"))), "A.b", "/\xff", "1")
	expectNone(t, list(pk("")), "", "")
}

// P5.4
func TestReplace(t *testing.T) {
	l := list(pk("b", fl("y", "1"), fl("x", "2")), pk("a", fl("x", "3")), pk("c"))
	expectReplace(t, l, "b", "x", "new", list(pk("b", fl("y", "1"), fl("x", "new")), pk("a", fl("x", "3")), pk("c")))
	expectReplace(t, l, "b", "y", "", list(pk("b", fl("y", ""), fl("x", "2")), pk("a", fl("x", "3")), pk("c")))
	expectReplace(t, l, "a", "x", "\x80", list(pk("b", fl("y", "1"), fl("x", "2")), pk("a", fl("x", "\x80")), pk("c")))
	expectReplace(t, l, "a", "x", "3", l)
	expectReplace(t, list(pk("", fl("", ""))), "", "", "1", list(pk("", fl("", "1"))))
	// Neither the length of the text nor the numbers are checked.
	long := string(make([]byte, api.MaxFile+1))
	if got, e := Replace(l, "a", "x", []byte(long)); e != nil || string(got[1].Files[0].Text) != long {
		t.Error("a long text", e)
	}
	many := list(filled("a", 5000))
	if got, e := Replace(many, "a", "n4999", []byte("new")); e != nil || string(got[0].Files[4999].Text) != "new" || len(got[0].Files) != 5000 {
		t.Error("many files", e)
	}
	if got, e := Replace(l, "a", "x", nil); e != nil || len(got) != 3 || len(got[1].Files) != 1 || len(got[1].Files[0].Text) != 0 {
		t.Error("no text", e)
	}
}

// P5.4: of several packages of one path, and of several files of one name, the first.
func TestFindFirst(t *testing.T) {
	l := list(pk("b"), pk("a", fl("y", "1"), fl("x", "2"), fl("x", "3")), pk("a", fl("x", "4"), fl("z", "5")), pk("b", fl("x", "6")))
	expectFind(t, l, "a", "x", "2")
	expectReplace(t, l, "a", "x", "new", list(pk("b"), pk("a", fl("y", "1"), fl("x", "new"), fl("x", "3")), pk("a", fl("x", "4"), fl("z", "5")), pk("b", fl("x", "6"))))
	// The first package of that path has no such file, a later one does.
	expectNone(t, l, "a", "z")
	expectNone(t, l, "b", "x")
}

// P5.4: all lists of up to three packages with up to two files, against the promise word by word.
func TestFindEveryList(t *testing.T) {
	var all []api.Package
	sequences(2, []string{"x", "y"}, func(names []string) {
		for _, path := range []string{"a", "b"} {
			p := pk(path)
			for _, name := range names {
				p.Files = append(p.Files, fl(name, fmt.Sprint(len(all), len(p.Files))))
			}
			all = append(all, p)
		}
	})
	sequences(3, all, func(l []api.Package) {
		p := slices.IndexFunc(l, func(p api.Package) bool { return p.Path == "a" })
		f := -1
		if p >= 0 {
			f = slices.IndexFunc(l[p].Files, func(f api.File) bool { return f.Name == "x" })
		}
		if f < 0 {
			expectNone(t, l, "a", "x")
			return
		}
		expectFind(t, l, "a", "x", string(l[p].Files[f].Text))
		want := slices.Clone(l)
		want[p].Files = slices.Clone(want[p].Files)
		want[p].Files[f].Text = []byte("new")
		expectReplace(t, l, "a", "x", "new", want)
	})
}

// P5.5
func TestPermute(t *testing.T) {
	a, b, c := pk("a"), pk("b"), pk("c")
	expectPermute(t, nil, nil, nil)
	expectPermute(t, nil, []int{1, 2}, nil)
	expectPermute(t, list(a), []int{5, 6}, list(a))
	expectPermute(t, list(a, b), []int{1}, list(b, a))
	expectPermute(t, list(a, b), []int{0}, list(a, b))
	expectPermute(t, list(a, b), []int{2}, list(a, b))
	expectPermute(t, list(a, b, c), nil, list(a, b, c))
	expectPermute(t, list(a, b, c), []int{}, list(a, b, c))
	expectPermute(t, list(a, b, c), []int{1}, list(b, a, c))
	expectPermute(t, list(a, b, c), []int{2}, list(c, b, a))
	expectPermute(t, list(a, b, c), []int{0, 1}, list(a, c, b))
	expectPermute(t, list(a, b, c), []int{2, 1}, list(c, a, b))
	expectPermute(t, list(a, b, c), []int{1, 1}, list(b, c, a))
	// The last pick has no choice, and those behind it have no package.
	expectPermute(t, list(a, b, c), []int{2, 1, 1, 1, 1}, list(c, a, b))
	// Larger than what is left, and negative.
	expectPermute(t, list(a, b, c), []int{3, 2}, list(a, b, c))
	expectPermute(t, list(a, b, c), []int{4, 3}, list(b, c, a))
	expectPermute(t, list(a, b, c), []int{-1}, list(c, b, a))
	expectPermute(t, list(a, b, c), []int{-2}, list(b, a, c))
	expectPermute(t, list(a, b, c), []int{-3, -1}, list(a, c, b))
	expectPermute(t, list(a, b, c), []int{-4, -2}, list(c, b, a))
	// The largest is 1 more than a multiple of 3, the smallest 2 less.
	expectPermute(t, list(a, b, c), []int{math.MaxInt}, list(b, a, c))
	expectPermute(t, list(a, b, c), []int{math.MinInt}, list(b, a, c))
	expectPermute(t, list(a, b, c), []int{0, math.MaxInt}, list(a, c, b))
	expectPermute(t, list(a, b, c), []int{0, math.MinInt}, list(a, b, c))
	expectPermute(t, list(a, b, c), []int{0, 0, math.MinInt, math.MinInt}, list(a, b, c))
	// The files of each package go by the same picks, from the first one.
	x, y, z := fl("x", "1"), fl("y", "2"), fl("z", "3")
	expectPermute(t, list(pk("a", x, y, z)), []int{2, 1}, list(pk("a", z, x, y)))
	expectPermute(t, list(pk("a", x, y), pk("b", x, y, z), c), []int{1}, list(pk("b", y, x, z), pk("a", y, x), c))
	expectPermute(t, list(pk("a", x, y, z), pk("b", z, y)), []int{-1}, list(pk("b", y, z), pk("a", z, y, x)))
	// More picks than packages: the files have room for them.
	expectPermute(t, list(pk("a", x, y, z)), []int{0, 1, 0, 5}, list(pk("a", x, z, y)))
	// Equal paths and names are exchanged like others.
	expectPermute(t, list(pk("a", x, fl("x", "2")), pk("a")), []int{1}, list(pk("a"), pk("a", fl("x", "2"), x)))
}

// exchanged is what P5.5 says of one list, word by word, in integers without bounds.
func exchanged[T any](l []T, pick []int) []T {
	l = slices.Clone(l)
	n := len(l)
	for i := 0; i < n && i < len(pick); i++ {
		// Mod of package big is never negative.
		at := i + int(new(big.Int).Mod(big.NewInt(int64(pick[i])), big.NewInt(int64(n-i))).Int64())
		l[i], l[at] = l[at], l[i]
	}
	return l
}

// permuted is what P5.5 says of l, word by word.
func permuted(l []api.Package, pick []int) []api.Package {
	l = exchanged(l, pick)
	for i := range l {
		l[i].Files = exchanged(l[i].Files, pick)
	}
	return l
}

// many is a package list of n packages with 0 to n - 1 files.
func many(n int) []api.Package {
	var l []api.Package
	for i, path := range numbered(n) {
		l = append(l, filled(path, i))
	}
	return l
}

// P5.5: all lists of up to three picks, and long lists of the largest ones.
func TestPermuteEveryPick(t *testing.T) {
	picks := []int{math.MinInt, math.MinInt + 1, -7, -3, -2, -1, 0, 1, 2, 3, 7, math.MaxInt - 1, math.MaxInt}
	for n := range 6 {
		sequences(3, picks, func(pick []int) { expectPermute(t, many(n), pick, permuted(many(n), pick)) })
	}
	for _, p := range picks {
		for _, n := range []int{10, 63, 64, 65} {
			pick := slices.Repeat([]int{p}, 70)
			expectPermute(t, many(n), pick, permuted(many(n), pick))
			expectPermute(t, many(n), pick[:8], permuted(many(n), pick[:8]))
		}
	}
}

// P5.5: the picks reach every order once.
func TestPermuteReaches(t *testing.T) {
	reached := map[string]bool{}
	for a := range 4 {
		for b := range 3 {
			for c := range 2 {
				reached[told(Permute(list(pk("a"), pk("b"), pk("c"), pk("d")), []int{a, b, c}))] = true
			}
		}
	}
	if len(reached) != 24 {
		t.Errorf("%d orders", len(reached))
	}
}

// P5.6
func TestOrderOfPermuted(t *testing.T) {
	given := list(
		pk("b", fl("y", "1"), fl("x", "2"), fl("x.go", "3"), fl("x_", "4")),
		pk("a/b", fl("x", "5")),
		pk("a", fl("z", "6"), fl("y", "7"), fl("", "8")),
		pk("a_"),
		pk("A", fl("\x80", "9"), fl("\xff", "10")),
	)
	want := told(Order(given))
	sequences(5, []int{0, 1, 2, -1, math.MinInt}, func(pick []int) {
		if got := told(Order(Permute(given, pick))); got != want {
			t.Errorf("picks %v: %s; want %s", pick, got, want)
		}
	})
	long := many(64)
	for i := range 64 {
		pick := slices.Repeat([]int{i*2741 + 7, -i, i * i}, 22)
		if told(Order(Permute(long, pick))) != told(Order(long)) {
			t.Errorf("picks %v", pick)
		}
	}
}

// Rule 1: no call panics on the empty things.
func TestNothing(t *testing.T) {
	for _, l := range [][]api.Package{nil, {}, {{}}, {{Files: []api.File{}}}, {{Files: []api.File{{}}}}, make([]api.Package, 3)} {
		Check(l)
		Find(l, "", "")
		Replace(l, "", "", nil)
		expectOrder(t, l, l)
		expectPermute(t, l, nil, l)
		expectPermute(t, l, []int{math.MinInt, -1, math.MaxInt}, l)
	}
}

// spoil writes over all that belongs to the packages, with the room behind them.
func spoil(l []api.Package) {
	for i, p := range l {
		for j, f := range p.Files {
			for k := range f.Text[:cap(f.Text)] {
				f.Text[:cap(f.Text)][k] = '!'
			}
			p.Files[j] = fl("spoilt", "spoilt")
		}
		clear(p.Files[:cap(p.Files)])
		l[i] = pk("spoilt")
	}
	clear(l[:cap(l)])
}

// roomy is packages with room behind each of their slices, all of it visible in whole.
func roomy() (l, whole []api.Package) {
	text := func(s string) []byte { return append(make([]byte, 0, 16), s+"behind"...)[:len(s)] }
	files := append(make([]api.File, 0, 8), api.File{Name: "y", Text: text("1")}, api.File{Name: "x", Text: text("2")}, api.File{Name: "behind", Text: text("3")})
	whole = append(make([]api.Package, 0, 8), pk("b", files[:2]...), pk("a", fl("z", "4")), pk("behind"))
	return whole[:2], whole
}

// calls is all calls that return packages, or a file as one.
func calls(l []api.Package, text []byte) [][]api.Package {
	replaced, _ := Replace(l, "b", "x", text)
	found, _ := Find(l, "b", "x")
	return [][]api.Package{Order(l), Permute(l, []int{1, -1}), Permute(l, nil), replaced, list(pk("found", found))}
}

// Rule 4: what is handed in stays as it is.
func TestArgumentsStay(t *testing.T) {
	l, whole := roomy()
	text, pick := append(make([]byte, 0, 8), "newer"...)[:3], []int{1, -1, math.MinInt}
	Check(l)
	calls(l, text)
	Permute(l, pick)
	Find(l, "c", "x")
	Replace(l, "c", "x", text)
	_, fresh := roomy()
	if !reflect.DeepEqual(whole, fresh) || !reflect.DeepEqual(whole[0].Files[:3], fresh[0].Files[:3]) || !slices.Equal(pick, []int{1, -1, math.MinInt}) || string(text[:5]) != "newer" {
		t.Errorf("%s, %v, %q", told(whole), pick, text)
	}
	for i, f := range whole[0].Files[:3] {
		if string(f.Text[:7]) != fmt.Sprintf("%dbehind", i+1) {
			t.Errorf("%q", f.Text[:7])
		}
	}
}

// Rule 4: no result shares memory with an argument, nor with another result.
func TestResultsStay(t *testing.T) {
	l, _ := roomy()
	text := []byte("new")
	n := len(calls(l, text))
	for i := range n {
		results := calls(l, text)
		var want []string
		for _, r := range results {
			want = append(want, told(r))
		}
		spoil(results[i])
		for k, r := range results {
			if k != i && told(r) != want[k] {
				t.Errorf("result %d changes with result %d: %s", k, i, told(r))
			}
		}
		fresh, _ := roomy()
		if told(l) != told(fresh) || string(text) != "new" {
			t.Errorf("the arguments change with result %d: %s, %q", i, told(l), text)
		}
	}
	results := calls(l, text)
	var want []string
	for _, r := range results {
		want = append(want, told(r))
	}
	spoil(l)
	clear(text)
	for i, r := range results {
		if told(r) != want[i] {
			t.Errorf("result %d changes with the arguments: %s", i, told(r))
		}
	}
}

// Rule 4: within one result nothing is shared either, even if it is in the argument.
func TestPartsOfResultsStay(t *testing.T) {
	text := []byte("same")
	files := []api.File{{Name: "x", Text: text}, {Name: "y", Text: text}}
	l := list(pk("a", files...), pk("b", files...))
	for i := range calls(l, text)[:4] {
		for _, spoilt := range [][2]int{{0, 0}, {0, 1}, {1, 0}, {1, 1}} {
			r := calls(l, text)[i]
			file, neighbour, other := &r[spoilt[0]].Files[spoilt[1]], &r[spoilt[0]].Files[1-spoilt[1]], r[1-spoilt[0]]
			was := told(list(pk("", *neighbour), other))
			clear(file.Text)
			file.Name = "spoilt"
			if told(list(pk("", *neighbour), other)) != was {
				t.Errorf("call %d, file %v: %s", i, spoilt, told(r))
			}
		}
	}
	if string(text) != "same" || strings.Contains(told(l), "spoilt") {
		t.Errorf("%s, %q", told(l), text)
	}
}
