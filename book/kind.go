package book

import "lapworks/api"

// kind is a kind of files: what can be in one, how its file is written, and how an eye reads it, which may also read what is no file.
type kind[T any] struct {
	isValid func(thing T) bool
	file    func(thing T) string
	look    func(e *eye) T
}

// written returns the file of a thing.
func written[T any](k kind[T], thing T) (string, api.Errno) {
	return answer(func() string {
		require(k.isValid(thing), api.ErrArg)
		return k.file(thing)
	})
}

// read returns what is in a file.
func read[T any](k kind[T], file string) (T, api.Errno) {
	return answer(func() T {
		require(len(file) <= api.BookBytes, api.ErrLong)
		return content(k, file)
	})
}

// content returns what is in a file. It gives up unless this is the file of something valid.
func content[T any](k kind[T], file string) T {
	thing := k.look(&eye{file})
	// Each thing has just one file, so whatever the eye read that is written otherwise, or did not look at, shows here.
	require(k.isValid(thing) && k.file(thing) == file, api.ErrForm)
	return thing
}
