// Package sample has the texts that the tests of several layers go through.
package sample

import "strconv"

// Short returns a text as a test tells it.
func Short(s string) string {
	if len(s) > 80 {
		return strconv.Quote(s[:40]) + ".." + strconv.Quote(s[len(s)-20:])
	}
	return strconv.Quote(s)
}

// Each calls f with all texts of at most n pieces.
func Each(pieces []string, n int, f func(s string)) {
	var grow func(s string, left int)
	grow = func(s string, left int) {
		f(s)
		for i := 0; i < len(pieces) && left > 0; i++ {
			grow(s+pieces[i], left-1)
		}
	}
	grow("", n)
}

// EveryByte returns all bytes, each as a text.
func EveryByte() []string {
	l := make([]string, 256)
	for i := range l {
		l[i] = string([]byte{byte(i)})
	}
	return l
}

// Broken returns texts that are not UTF-8: encodings that are cut off, interrupted, longer than needed, of surrogates and of too great numbers, and bytes that begin none.
func Broken() []string {
	return []string{
		"\x80", "\xbf", "\xc3", "\xc3\xc3", "\xe2", "\xe2\x82", "\xf0\x9f\x98", "\xe2a\xac",
		"\xc0\x80", "\xc1\xbf", "\xe0\x80\x80", "\xed\xa0\x80", "\xed\xbf\xbf",
		"\xf4\x90\x80\x80", "\xf8\x88\x80\x80\x80", "\xfe", "\xff", "\xff\xff",
	}
}
