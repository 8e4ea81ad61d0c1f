package book

import (
	"slices"

	"lapworks/api"
)

// mark is the byte with which all bytes of fines begin.
const mark = 70

// base is that of numbers in bytes. It is added to each of their digits but the last one.
const base = 128

// fineFiles is the kind of files of fines.
func fineFiles() kind[api.Fines] { return kind[api.Fines]{areFines, fineBytes, (*eye).fines} }

// fineBytes returns the bytes of valid fines.
func fineBytes(f api.Fines) string {
	file := []byte{mark}
	add := func(numbers ...int) {
		for _, n := range numbers {
			for ; n >= base; n /= base {
				file = append(file, byte(n%base+base))
			}
			file = append(file, byte(n))
		}
	}
	add(len(f.Rules))
	for _, r := range f.Rules {
		add(r.Base, r.Step, r.Most, r.Window)
	}
	add(f.Riders, len(f.List))
	for _, o := range f.List {
		add(o.Kind, o.Riders, o.Hours.Lo, o.Hours.Hi-o.Hours.Lo)
	}
	return string(append(file, check(file)))
}

// check returns the byte that makes, with these bytes, the number of those in which a bit is set even, for each bit.
func check(file []byte) byte {
	odd := byte(0)
	for _, b := range file {
		odd ^= b
	}
	return odd
}

// restored returns bytes with that one changed, if it has to be, by which of each bit an even number is set in.
func restored(file []byte, at int) []byte {
	whole := slices.Clone(file)
	whole[at] ^= check(file)
	return whole
}

// fines reads fines.
func (e *eye) fines() api.Fines {
	require(e.letter() == mark, api.ErrForm)
	var f api.Fines
	for range e.based() {
		f.Rules = append(f.Rules, e.rule())
	}
	f.Riders = e.based()
	for range e.based() {
		f.List = append(f.List, e.offence())
	}
	return f
}

// based reads a number in the base of bytes. One that is too great for an int becomes another one, which is written with other digits.
func (e *eye) based() int {
	number, worth := 0, 1
	for {
		digit := int(e.letter())
		number += digit % base * worth
		if digit < base {
			return number
		}
		worth *= base
	}
}

// four reads four numbers in the base of bytes.
func (e *eye) four() [4]int {
	var numbers [4]int
	for i := range numbers {
		numbers[i] = e.based()
	}
	return numbers
}

// rule reads a rule.
func (e *eye) rule() api.FineRule {
	n := e.four()
	return api.FineRule{Base: n[0], Step: n[1], Most: n[2], Window: n[3]}
}

// offence reads an offence.
func (e *eye) offence() api.Offence {
	n := e.four()
	return api.Offence{Kind: n[0], Riders: n[1], Hours: api.Span{Lo: n[2], Hi: n[2] + n[3]}}
}
