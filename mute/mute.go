// Package mute: code that tells nothing by the way it goes: see DOC.md.
package mute

import (
	"mute/api"
	"mute/guard"
	"mute/parse"
)

// Check looks at a program (P3).
func Check(text string) (api.Errno, int) {
	program, errno, at := parse.Program(text)
	if errno != api.OK {
		return errno, at
	}
	if at, found := guard.First(program); found {
		return api.ErrSecret, at
	}
	return api.OK, 0
}

// Shape tells which words of a program's memory are secret (P4).
func Shape(text string) ([]bool, api.Errno) { return nil, api.OK }

// Run does what a program means (P5).
func Run(text string, memory []int) ([]int, api.Errno) { return nil, api.OK }

// Compile makes instructions (P6).
func Compile(text string) ([]api.Instr, api.Errno) { return nil, api.OK }
