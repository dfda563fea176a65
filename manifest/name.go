package manifest

import (
	"strings"

	"atrium/wal"
)

const (
	namePrefix = "manifest-"
	logPrefix  = "wal-" // of wal's names, whose digits are these, too
	nameEnd    = "\n"
)

// Name is the name of a manifest's file.
func Name(number int) string {
	digits, is := strings.CutPrefix(wal.Name(number), logPrefix)
	if !is {
		return ""
	}
	return namePrefix + digits
}

// Number is the number of a name.
func Number(name string) (int, bool) {
	digits, is := strings.CutPrefix(name, namePrefix)
	if !is {
		return 0, false
	}
	return wal.Number(logPrefix + digits)
}

// Current is the text that points to a manifest.
func Current(number int) string {
	name := Name(number)
	if name == "" {
		return ""
	}
	return name + nameEnd
}

// Pointed is the number of the manifest to which a text points.
func Pointed(text string) (int, bool) {
	name, is := strings.CutSuffix(text, nameEnd)
	if !is {
		return 0, false
	}
	return Number(name)
}
