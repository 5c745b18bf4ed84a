package rcsfmt

import (
	"strings"

	"redline/api"
	"redline/lines"
	"redline/num"
)

// Run is what such a text makes of lines.
func Run(text string, a []string) ([]string, error) {
	if len(text) > api.MaxText {
		return nil, &api.Fault{Err: api.ErrLong}
	}
	r := runner{script: lines.Split(text), old: a}
	for r.next < len(r.script) {
		if err := r.step(); err != api.OK {
			return nil, &api.Fault{At: r.next + 1, Err: err}
		}
	}
	made := append(r.made, a[r.done:]...)
	if err := lines.Check(made); err != api.OK {
		return nil, &api.Fault{At: r.next + 1, Err: err}
	}
	return made, nil
}

// runner does the commands of a script. What is wrong with it is always told of the next line: a line is passed over only when it was found right.
type runner struct {
	script []string
	next   int      // how many lines of the script are passed over
	old    []string // the lines of the old text
	done   int      // how many of these are kept or taken out: the number of the line at which the command ahead has ended or put in
	filled bool     // lines were put in behind that line already
	made   []string // what has become of the lines that are done
}

// command is what is done with the lines of the old text: behind some of them others are taken out, or lines are put in.
type command struct {
	ahead int // how many lines stand ahead
	gone  int // how many are taken out
	put   int // how many are put in
}

// step does the command that stands next, with the lines that follow it.
func (r *runner) step() api.Errno {
	c, ok := commandFrom(r.script[r.next])
	if !ok {
		return api.ErrText
	}
	if c.ahead < r.done || c.ahead == r.done && c.put > 0 && r.filled {
		return api.ErrOrder
	}
	// Not asked by the sum of both, for which an int may be too small.
	if c.gone > len(r.old)-c.ahead {
		return api.ErrRange
	}
	r.next++
	put, err := r.take(c.put)
	if err != api.OK {
		return err
	}
	r.made = append(r.made, r.old[r.done:c.ahead]...)
	r.made = append(r.made, put...)
	r.done = c.ahead + c.gone
	r.filled = c.put > 0
	return api.OK
}

// take is the count lines of the script that stand next, and passes over them; if there are fewer, over all.
func (r *runner) take(count int) ([]string, api.Errno) {
	left := r.script[r.next:]
	if count > len(left) {
		r.next = len(r.script)
		return nil, api.ErrShort
	}
	r.next += count
	return left[:count], api.OK
}

// commandFrom is the command that a line says, which isn't empty, and whether it says one.
func commandFrom(line string) (command, bool) {
	letter, rest, right := line[:1], line[1:], true
	// number hands over the number in front of a blank, or of another end, and leaves what stands behind that.
	number := func(end string) int {
		digits, behind, found := strings.Cut(rest, end)
		n, err := num.Parse(digits)
		right = right && found && err == api.OK
		rest = behind
		return n
	}
	first := number(blank)
	count := number(feed)
	switch {
	case !right || count == 0:
		return command{}, false
	case letter == puts:
		return command{ahead: first, put: count}, true
	case letter == takes && first > 0:
		return command{ahead: first - 1, gone: count}, true
	}
	return command{}, false
}
