package impl

import (
	"iter"
	"slices"
	"strings"
)

const OK = 0
const ErrForm = 1
const ErrMany = 2
const ErrRange = 3
const ErrNone = 4
const ErrText = 5
const ErrClash = 6
const ErrTaken = 7
const ErrBusy = 8
const ErrDown = 9
const MaxText = 2000
const MaxLines = 100

const lineFeed = 10

const digestStart = 7
const digestFactor = 131
const digestModulus = 65521

type LinesResult struct {
	Code  int64
	Lines []string
}
type TextResult struct {
	Code int64
	Text string
}
type IntResult struct {
	Code  int64
	Value int64
}

func TextFault(text string) int64 {
	if len(text) > MaxText {
		return ErrMany
	}
	count := 0
	for range linesIn(text) {
		count++
	}
	if count > MaxLines {
		return ErrMany
	}
	return OK
}

func SplitLines(text string) LinesResult {
	if code := TextFault(text); code != OK {
		return LinesResult{Code: code}
	}
	var lines []string
	for line := range linesIn(text) {
		// A piece of text would share its memory with the argument.
		lines = append(lines, strings.Clone(line))
	}
	return LinesResult{Lines: lines}
}

func JoinLines(lines []string) TextResult {
	if code := LinesFault(lines); code != OK {
		return TextResult{Code: code}
	}
	// strings.Join hands a lone line out as it is; a builder always copies.
	var text strings.Builder
	for _, line := range lines {
		text.WriteString(line)
	}
	return TextResult{Text: text.String()}
}

func LinesFault(lines []string) int64 {
	if exceedsText(lines) {
		return ErrMany
	}
	for i, line := range lines {
		isLast := i == len(lines)-1
		if !isLine(line, isLast) {
			return ErrForm
		}
	}
	return OK
}

func IsBinary(text string) bool {
	return strings.IndexByte(text, 0) >= 0
}

func DigestOf(text string) int64 {
	// The greatest value ahead of the modulo is below 2^24, so 32 bits never wrap round.
	h := uint32(digestStart)
	for i := range len(text) {
		h = (h*digestFactor + uint32(text[i])) % digestModulus
	}
	return int64(h)
}

func SameLines(a []string, b []string) bool {
	return slices.Equal(a, b)
}

// linesIn yields pieces of text, not copies: who hands one out must clone it.
func linesIn(text string) iter.Seq[string] {
	return func(yield func(string) bool) {
		// The place is the walk's own, so that a sequence can be ranged over again.
		for at := 0; at < len(text); {
			end := lineEnd(text, at)
			if !yield(text[at:end]) {
				return
			}
			at = end
		}
	}
}

func lineEnd(text string, at int) int {
	feed := strings.IndexByte(text[at:], lineFeed)
	if feed < 0 {
		return len(text)
	}
	return at + feed + 1
}

// exceedsText counts the room down, so that no sum of lengths can overflow.
func exceedsText(lines []string) bool {
	if len(lines) > MaxLines {
		return true
	}
	room := MaxText
	for _, line := range lines {
		if len(line) > room {
			return true
		}
		room -= len(line)
	}
	return false
}

// isLine: only the last line of a text may lack its line feed.
func isLine(line string, isLast bool) bool {
	if line == "" {
		return false
	}
	feed := strings.IndexByte(line, lineFeed)
	if feed < 0 {
		return isLast
	}
	return feed == len(line)-1
}
