package folio_test

import (
	"strings"
	"testing"
	"unsafe"

	"folio/folio"
)

type resolveCase struct{ base, reference, want string }

func checkResolve(t *testing.T, cases []resolveCase) {
	t.Helper()
	for _, c := range cases {
		if got := folio.Resolve(c.base, c.reference); got != c.want {
			t.Errorf("P5: Resolve(%q, %q) = %q, want %q", c.base, c.reference, got, c.want)
		}
	}
}

// from is a base that has every part.
const from = "http://h/a/b?q#z"

func TestResolveOrdinary(t *testing.T) {
	checkResolve(t, []resolveCase{
		{"http://h/a/b?q", "../c#m", "http://h/c#m"},
		{from, "c", "http://h/a/c"},
		{from, "c/d?e#f", "http://h/a/c/d?e#f"},
		{from, "/c", "http://h/c"},
		{from, "//i/c", "http://i/c"},
		{from, "s://i/c", "s://i/c"},
		{from, "?c", "http://h/a/b?c"},
		{from, "#c", "http://h/a/b?q#c"},
		{from, "", "http://h/a/b?q"},
	})
}

func TestResolveReferenceWithScheme(t *testing.T) {
	checkResolve(t, []resolveCase{
		{from, "s:", "s:"},
		{from, "s:x", "s:x"},
		{from, "s:/x", "s:/x"},
		{from, "s://", "s://"},
		{from, "s://i", "s://i"},
		{from, "s://i?r#m", "s://i?r#m"},
		{from, "s:?r", "s:?r"},
		{from, "s:#m", "s:#m"},
		{from, "s:?#", "s:?#"},
		{from, "http:c", "http:c"},
		{from, "S:x", "S:x"},
		{from, "s:a/../b/./c", "s:b/c"},
		{from, "s://i/a/../../b", "s://i/b"},
		{from, "s:.", "s:"},
		{from, "s:..", "s:"},
		{from, "s://i/..", "s://i/"},
		{from, "s:a?b/../c#d/../e", "s:a?b/../c#d/../e"},
		{"", "s:x:y", "s:x:y"},
	})
}

func TestResolveWhatIsAScheme(t *testing.T) {
	for _, scheme := range []string{"a", "z", "A", "Z", "a1", "a0-9+.", "aZ", "a..", "a+", "aa-"} {
		checkResolve(t, []resolveCase{{from, scheme + ":x", scheme + ":x"}, {scheme + ":x", "y", scheme + ":y"}})
	}
	for _, none := range []string{"", "1", "1a", "+a", "-a", ".a", "a_", "a b", " a", "é", "aé", "a@b", "a%20", "a\u212a", "\xff", "a\xff", "a,", "a;", "a*", "a[", "@", "`a", "{", "a/b"} {
		folder := ""
		if strings.Contains(none, "/") {
			folder = "a/"
		}
		checkResolve(t, []resolveCase{{from, none + ":x", "http://h/a/" + none + ":x"}, {none + ":x", "y", folder + "y"}})
	}
	checkResolve(t, []resolveCase{
		{from, "a", "http://h/a/a"},
		{from, "./a:x", "http://h/a/a:x"},
		{from, "?a:x", "http://h/a/b?a:x"},
		{from, "#a:x", "http://h/a/b?q#a:x"},
		{from, "a?b:x", "http://h/a/a?b:x"},
		{from, "a#b:x", "http://h/a/a#b:x"},
		{from, "//a:x", "http://a:x"},
		{from, "/a:x", "http://h/a:x"},
		{from, "::", "http://h/a/::"},
	})
}

func TestResolveReferenceWithHost(t *testing.T) {
	checkResolve(t, []resolveCase{
		{from, "//i", "http://i"},
		{from, "//i?r", "http://i?r"},
		{from, "//i#m", "http://i#m"},
		{from, "//i/x?r#m", "http://i/x?r#m"},
		{from, "//i/../x/./y/..", "http://i/x/"},
		{from, "//", "http://"},
		{from, "//?r", "http://?r"},
		{from, "///x", "http:///x"},
		{from, "////x", "http:////x"},
		{from, "//..", "http://.."},
		{from, "//./x", "http://./x"},
		{from, "//u@i:8/x", "http://u@i:8/x"},
		{"a/b", "//i/x", "//i/x"},
		{"", "//i", "//i"},
		{"s:a", "//i", "s://i"},
		{from, "/x//i", "http://h/x//i"},
	})
}

func TestResolveEmptyPath(t *testing.T) {
	checkResolve(t, []resolveCase{
		{"http://h/a/b?q", "", "http://h/a/b?q"},
		{"http://h/a/b", "", "http://h/a/b"},
		{"http://h/a/b#z", "", "http://h/a/b"},
		{"http://h/a/b?q#z", "#", "http://h/a/b?q#"},
		{"http://h/a/b?q#z", "#m", "http://h/a/b?q#m"},
		{"http://h/a/b?q#z", "?", "http://h/a/b?"},
		{"http://h/a/b?q#z", "?r", "http://h/a/b?r"},
		{"http://h/a/b?q#z", "?r#m", "http://h/a/b?r#m"},
		{"http://h/a/b?", "", "http://h/a/b?"},
		{"http://h/a/b?", "#", "http://h/a/b?#"},
		{"http://h", "", "http://h"},
		{"http://h", "?r", "http://h?r"},
		{"http://h/./a/../b/.", "", "http://h/./a/../b/."},
		{"http://h/./a/../b/.", "?r", "http://h/./a/../b/.?r"},
		{"http://h/..", "#m", "http://h/..#m"},
		{"s:", "", "s:"},
		{"", "", ""},
		{"", "?", "?"},
		{"", "#", "#"},
		{"", "?#", "?#"},
		{"#z", "", ""},
		{"?q", "", "?q"},
		{"a", "", "a"},
	})
}

func TestResolvePathFromTheFront(t *testing.T) {
	checkResolve(t, []resolveCase{
		{from, "/", "http://h/"},
		{from, "/x", "http://h/x"},
		{from, "/x?", "http://h/x?"},
		{from, "/x#", "http://h/x#"},
		{from, "/x/../y", "http://h/y"},
		{from, "/..", "http://h/"},
		{from, "/.", "http://h/"},
		{"a/b", "/x", "/x"},
		{"s:a/b", "/x", "s:/x"},
		{"s://h", "/x", "s://h/x"},
		// The path that is left begins like a host.
		{"s:a", "/.//x", "s://x"},
		{"", "/..//x", "//x"},
	})
}

func TestResolvePathFromTheBase(t *testing.T) {
	checkResolve(t, []resolveCase{
		{"http://h", "c", "http://h/c"},
		{"http://h?q", "c", "http://h/c"},
		{"http://h#z", "c", "http://h/c"},
		{"http://h/", "c", "http://h/c"},
		{"http://h/a", "c", "http://h/c"},
		{"http://h/a/", "c", "http://h/a/c"},
		{"http://h/a//", "c", "http://h/a//c"},
		{"http://", "c", "http:///c"},
		{"//h", "c", "//h/c"},
		{"s:", "c", "s:c"},
		{"s:a", "c", "s:c"},
		{"s:/", "c", "s:/c"},
		{"s:a/b", "c", "s:a/c"},
		{"a", "c", "c"},
		{"a/b", "c", "a/c"},
		{"/a", "c", "/c"},
		{"", "c", "c"},
		{"http://h/a?q/r", "c", "http://h/c"},
		{"http://h/a#z/y", "c", "http://h/c"},
		{"http://h/a/../b/c", "d", "http://h/b/d"},
		{"http://h/a/./b", "d", "http://h/a/d"},
		{"http://h/a/..", "d", "http://h/a/d"},
		{"http://h/a/b?q", "c?", "http://h/a/c?"},
		{"http://h/a/b?q", "c?r?s#m#n", "http://h/a/c?r?s#m#n"},
		{"http://h/a/b?q", ".?r", "http://h/a/?r"},
		{"http://h", "..", "http://h/"},
		{"http://h", ".", "http://h/"},
		{"http://h/a/b", "./..", "http://h/"},
		{"http://h/a/b/c", "../../d/./e/", "http://h/d/e/"},
		{"a/b", "../../c", "c"},
		{"a/b", "..", ""},
		{"a/b", ".", "a/"},
		{"b", ".", ""},
		{"b", "..", ""},
	})
}

func TestResolveMadePlain(t *testing.T) {
	for _, c := range []struct{ path, want string }{
		{"", ""}, {"/", "/"}, {"//", "//"}, {"a", "a"}, {"a/", "a/"}, {"/a", "/a"}, {"a//b", "a//b"},
		{".", ""}, {"./", ""}, {"/.", "/"}, {"/./", "/"}, {"./a", "a"}, {"a/.", "a/"}, {"a/./", "a/"}, {"a/./b", "a/b"}, {"/./a", "/a"}, {"a/././b", "a/b"}, {"./.", ""},
		{"..", ""}, {"../", ""}, {"/..", "/"}, {"/../", "/"}, {"../a", "a"}, {"../../a", "a"}, {"/../../a", "/a"}, {"a/..", ""}, {"a/../", ""}, {"a/../b", "b"}, {"/a/..", "/"}, {"/a/../", "/"}, {"/a/../b", "/b"},
		{"a/b/..", "a/"}, {"a/b/../", "a/"}, {"a/b/../..", ""}, {"a/b/../../..", ""}, {"a/b/../../../c", "c"}, {"/a/b/../..", "/"}, {"/a/b/../../..", "/"},
		{"//..", "/"}, {"///..", "//"}, {"//../a", "/a"}, {"/a//..", "/a/"}, {"a//..", "a/"}, {"a//../b", "a/b"}, {"a//../../b", "b"}, {"/a//../../b", "/b"},
		{"a/..//", "/"}, {"a/..//b", "/b"}, {"a/..//..", "/"}, {"a/..//../b", "/b"}, {".//..", "/"}, {".//b", "/b"}, {"..//", "/"},
		{"./..", ""}, {"../.", ""}, {"a/./..", ""}, {"a/../.", ""}, {"a/b/./..", "a/"}, {"a/b/../.", "a/"}, {"/./..", "/"}, {"/../.", "/"},
		{"...", "..."}, {"a/...", "a/..."}, {".a", ".a"}, {"a.", "a."}, {"..a", "..a"}, {"a..", "a.."}, {"a/.b/..c", "a/.b/..c"}, {"a/.../..", "a/"}, {" .", " ."}, {"a/. /b", "a/. /b"}, {"%2e", "%2e"}, {"%2e%2e/a", "%2e%2e/a"},
		{"a:b/..", ""}, {"é/../à", "à"}, {"\xff/./\xfe", "\xff/\xfe"},
	} {
		if !strings.HasPrefix(c.path, "//") {
			checkResolve(t, []resolveCase{{"", "s:" + c.path, "s:" + c.want}, {from, "s:" + c.path + "?./..#..", "s:" + c.want + "?./..#.."}})
		}
		if strings.HasPrefix(c.path, "/") {
			checkResolve(t, []resolveCase{{from, "//i" + c.path, "http://i" + c.want}, {from, "s://i" + c.path + "#", "s://i" + c.want + "#"}})
		}
	}
}

func TestResolveBytesThatAreNoLetters(t *testing.T) {
	checkResolve(t, []resolveCase{
		{"http://h\xff/\xe2\x82/b", "\xc3#\x80", "http://h\xff/\xe2\x82/\xc3#\x80"},
		{"\x00:a", "\x00", "\x00"},
		{"http://h/ a /b", " c\n", "http://h/ a / c\n"},
		{"http://é/à/", "ü?ö#ß", "http://é/à/ü?ö#ß"},
	})
}

func TestResolveLongAddresses(t *testing.T) {
	const many = 200000
	up, down := strings.Repeat("../", many), strings.Repeat("a/", many)
	checkResolve(t, []resolveCase{
		{"http://h/" + down, up + "b", "http://h/b"},
		{"http://h/", down + up + "b", "http://h/b"},
		{"http://h/", strings.Repeat("./", many) + "b", "http://h/b"},
		{"http://h" + strings.Repeat("/", many), "b", "http://h" + strings.Repeat("/", many) + "b"},
		{strings.Repeat("s", many) + ":", "b", strings.Repeat("s", many) + ":b"},
	})
}

func TestResolveGivesNewMemory(t *testing.T) {
	for _, c := range []resolveCase{
		{"abc/def", "", "abc/def"}, {"", "abcdef", "abcdef"}, {"abc/def", "s:abcdef", "s:abcdef"}, {"abcdef/", "?", "abcdef/?"}, {"s:abc", "/abc/def", "s:/abc/def"}, {"//abc/def", "#abc", "//abc/def#abc"}, {"", "/abc", "/abc"}, {"", "#abc", "#abc"},
	} {
		base, reference := []byte(c.base), []byte(c.reference)
		one, other := unsafe.String(unsafe.SliceData(base), len(base)), unsafe.String(unsafe.SliceData(reference), len(reference))
		got := folio.Resolve(one, other)
		if sharesMemory(got, one) || sharesMemory(got, other) {
			t.Errorf("P1: Resolve(%q, %q) stands in what was handed in", c.base, c.reference)
		}
		clear(base)
		clear(reference)
		if got != c.want {
			t.Errorf("P1: Resolve(%q, %q) = %q, when what was handed in has changed; want %q", c.base, c.reference, got, c.want)
		}
	}
}
