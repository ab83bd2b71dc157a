// Package mute: code that tells nothing by the way it goes: see DOC.md.
package mute

import (
	"mute/api"
	"mute/guard"
	"mute/parse"
	"mute/run"
	"mute/tree"
	"mute/write"
)

// read gives a program that may be, or what Check answers.
func read(text string) (tree.Program, api.Errno, int) {
	program, errno, at := parse.Program(text)
	if errno != api.OK {
		return tree.Program{}, errno, at
	}
	if at, found := guard.First(program); found {
		return tree.Program{}, api.ErrSecret, at
	}
	return program, api.OK, 0
}

// Check looks at a program (P3).
func Check(text string) (api.Errno, int) {
	_, errno, at := read(text)
	return errno, at
}

// Shape tells which words of a program's memory are secret (P4).
func Shape(text string) ([]bool, api.Errno) {
	program, errno, _ := read(text)
	if errno != api.OK {
		return nil, errno
	}
	shape := make([]bool, 0, program.Words)
	for _, name := range program.Names {
		for range name.Size {
			shape = append(shape, name.Secret)
		}
	}
	return shape, api.OK
}

// Run does what a program means (P5).
func Run(text string, memory []int) ([]int, api.Errno) {
	program, errno, _ := read(text)
	if errno != api.OK {
		return nil, errno
	}
	if len(memory) != program.Words {
		return nil, api.ErrArg
	}
	return run.Program(program, memory), api.OK
}

// Compile makes instructions (P6).
func Compile(text string) ([]api.Instr, api.Errno) {
	program, errno, _ := read(text)
	if errno != api.OK {
		return nil, errno
	}
	return write.Program(program), api.OK
}
