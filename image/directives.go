package image

import (
	"strconv"

	"swage/api"
	"swage/lines"
	"swage/names"
)

// errorOf returns the error of a line as a header directive. Lines that are none have no error here.
func errorOf(l lines.Line) api.Errno {
	if !hasItsArgs(l) {
		return api.ErrLine
	}
	if (l.Word == "def" || l.Word == "part") && !names.Right(l.Args[0]) {
		return api.ErrName
	}
	return api.OK
}

// hasItsArgs reports whether the Args of a header directive are as it requires, but for the name.
func hasItsArgs(l lines.Line) bool {
	switch l.Word {
	case "list":
		return len(l.Args) == 1 && (l.Args[0] == "0" || l.Args[0] == "1")
	case "def":
		return len(l.Args) == 2 && areFlags(l.Args[1])
	case "part":
		return len(l.Args) == 1
	case "heads":
		return len(l.Args) == 0
	}
	return l.Word != "head" // which is reserved
}

// areFlags reports whether an Arg is a number that a header's flags can be.
func areFlags(arg string) bool {
	n, ok := lines.Number(arg)
	return ok && n >= 0 && n <= allFlags
}

// flagsAndName returns the numbers of the bytes that a definition's header has for its flags and its name.
func flagsAndName(definition lines.Line) []string {
	name := definition.Args[0]
	flags, _ := lines.Number(definition.Args[1]) // it is one: the definition was checked
	args := []string{strconv.Itoa(flags), strconv.Itoa(len(name))}
	for k := range len(name) {
		args = append(args, strconv.Itoa(int(name[k])))
	}
	return args
}
