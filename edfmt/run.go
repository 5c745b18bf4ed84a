package edfmt

import (
	"strings"

	"redline/api"
	"redline/lines"
	"redline/num"
)

// Run is what such commands make of a text.
func Run(text string, a []string) ([]string, error) {
	if len(text) > api.MaxText {
		return nil, &api.Fault{Err: api.ErrLong}
	}
	e := editor{script: lines.Split(text), there: inBlocks(bared(a))}
	for e.next < len(e.script) {
		if err := e.step(); err != api.OK {
			return nil, &api.Fault{At: e.next + 1, Err: err}
		}
	}
	return e.result(), nil
}

// bared is a new list of lines without their line feeds.
func bared(l []string) []string {
	bare := make([]string, len(l))
	for i, line := range l {
		bare[i], _ = lines.Bare(line)
	}
	return bare
}

// editor does the commands of a script. What is wrong with it is always told of the next line: a line is passed over only when it was found right.
type editor struct {
	script  []string
	next    int    // how many lines of the script are passed over
	there   blocks // the lines of the text as it is now, without line feeds
	current int    // the number of the current line, from 1 on; 0: there is none
	ended   bool   // the end line has been there
}

// command is what is done with the lines of a text: those from a place on, up to another one, are taken out, and in their place text lines are put in, if it has any.
type command struct {
	from, to int
	text     bool
}

// step does what the next line says, with the text lines behind it.
func (e *editor) step() api.Errno {
	line, err := e.line()
	if err != api.OK {
		return err
	}
	// Asked ahead of what the line says: behind the end line no command may stand, so it is not looked at as one.
	if e.ended {
		return api.ErrMore
	}
	switch line {
	case endLine:
		e.ended = true
		e.next++
		return api.OK
	case shorten:
		return e.cutCurrent()
	case further:
		return e.putFurther()
	}
	c, ok := commandFrom(line)
	if !ok {
		return api.ErrText
	}
	if c.to > e.there.count {
		return api.ErrRange
	}
	return e.do(c)
}

// line is the next line of the script, without its line feed; it must be there, and have that.
func (e *editor) line() (string, api.Errno) {
	if e.next == len(e.script) {
		return "", api.ErrShort
	}
	line, fed := lines.Bare(e.script[e.next])
	if !fed {
		return "", api.ErrText
	}
	return line, api.OK
}

// cutCurrent takes out the first byte of the current line.
func (e *editor) cutCurrent() api.Errno {
	if e.current == 0 {
		return api.ErrDot
	}
	line := e.there.line(e.current)
	if *line == "" {
		return api.ErrDot
	}
	*line = (*line)[1:]
	e.next++
	return api.OK
}

// putFurther puts in text lines behind the current line.
func (e *editor) putFurther() api.Errno {
	if e.current == 0 {
		return api.ErrDot
	}
	return e.do(command{from: e.current, to: e.current, text: true})
}

// do does a command that names lines which are there; its own line stands next in the script.
func (e *editor) do(c command) api.Errno {
	e.next++
	var put []string
	if c.text {
		text, err := e.text()
		if err != api.OK {
			return err
		}
		put = text
	}
	e.there.replace(c.from, c.to, put)
	e.current = 0
	if len(put) > 0 {
		e.current = c.from + len(put)
	}
	return api.OK
}

// text is the text lines that stand next, and passes over them and the dot behind them.
func (e *editor) text() ([]string, api.Errno) {
	var l []string
	for {
		line, err := e.line()
		if err != api.OK {
			return nil, err
		}
		e.next++
		if line == dot {
			return l, api.OK
		}
		l = append(l, line)
	}
}

// result is the lines that are there, with their line feeds; behind the end line the last one has none.
func (e *editor) result() []string {
	made := e.there.all()
	fed := len(made)
	if e.ended && fed > 0 {
		fed--
	}
	for i := range fed {
		made[i] += feed
	}
	return made
}

// commandFrom is the command that a line with numbers says, and whether it says one.
func commandFrom(line string) (command, bool) {
	if numbers, ok := strings.CutSuffix(line, "a"); ok {
		n, err := num.Parse(numbers)
		return command{from: n, to: n, text: true}, err == api.OK
	}
	if numbers, ok := strings.CutSuffix(line, "c"); ok {
		from, to, right := rangeFrom(numbers)
		return command{from: from, to: to, text: true}, right
	}
	if numbers, ok := strings.CutSuffix(line, "d"); ok {
		from, to, right := rangeFrom(numbers)
		return command{from: from, to: to}, right
	}
	return command{}, false
}

// rangeFrom is the places, from 0 on, from which on and up to which the lines stand of which s is the range, and whether s is one.
func rangeFrom(s string) (from, to int, right bool) {
	head, tail, several := strings.Cut(s, ",")
	first, err := num.Parse(head)
	if err != api.OK || first == 0 {
		return 0, 0, false
	}
	if !several {
		return first - 1, first, true
	}
	last, err := num.Parse(tail)
	return first - 1, last, err == api.OK && last > first
}
