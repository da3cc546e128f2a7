// Package list holds what layers say alike of lists: what is asked of one that rises, what stands in it, and how it is put as bytes.
package list

import (
	"slices"
	"strings"

	"almonry/api"
	"almonry/wire"
)

// Compare compares a and b by what tells which one stands ahead.
func Compare[T any](less func(a, b T) bool, a, b T) int {
	switch {
	case less(a, b):
		return -1
	case less(b, a):
		return 1
	}
	return 0
}

// Has tells whether a thing stands in a list that rises.
func Has[T any](l []T, less func(a, b T) bool, thing T) bool {
	_, found := slices.BinarySearchFunc(l, thing, func(a, b T) int { return Compare(less, a, b) })
	return found
}

// Check asks each thing's own check, and only then whether all of them rise.
func Check[T any](l []T, check func(T) api.Errno, less func(a, b T) bool) api.Errno {
	for _, thing := range l {
		if err := check(thing); err != api.OK {
			return err
		}
	}
	for i := 1; i < len(l); i++ {
		if !less(l[i-1], l[i]) {
			return api.ErrForm
		}
	}
	return api.OK
}

// Lay lays things one behind the other, each as it is put.
func Lay[T any](l []T, put func(T) (string, api.Errno)) (string, api.Errno) {
	var out strings.Builder
	for _, thing := range l {
		s, err := put(thing)
		if err != api.OK {
			return "", err
		}
		out.WriteString(s)
	}
	return out.String(), api.OK
}

// Put puts things that rise behind their count.
func Put[T any](l []T, check func(T) api.Errno, less func(a, b T) bool, put func(T) (string, api.Errno)) (string, api.Errno) {
	if len(l) > api.MaxList {
		return "", api.ErrLong
	}
	if err := Check(l, check, less); err != api.OK {
		return "", err
	}
	count, err := wire.Num(len(l))
	if err != api.OK {
		return "", err
	}
	things, err := Lay(l, put)
	if err != api.OK {
		return "", err
	}
	return count + things, api.OK
}

// Read reads what Put puts, thing by thing as take takes it.
func Read[T any](s string, check func(T) api.Errno, less func(a, b T) bool, take func(*wire.Reader) T) ([]T, api.Errno) {
	r := wire.New(s)
	count := r.Num()
	// Too many are told as such, whatever stands behind their count.
	if count > api.MaxList {
		return nil, api.ErrLong
	}
	var l []T
	for range count {
		l = append(l, take(r))
	}
	if err := r.Done(); err != api.OK {
		return nil, err
	}
	if err := Check(l, check, less); err != api.OK {
		return nil, err
	}
	return l, api.OK
}
