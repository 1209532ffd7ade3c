package office

import (
	"maps"
	"strings"

	"lampbox/api"
)

// act has the arguments that it needs, as the chapter names them, and what it does.
type act struct {
	form string
	do   func(arguments) string
}

// perform performs the act of a line, and returns its result, or the error for which it is wrong.
func (o *Office) perform(line string) (result string, err api.Errno) {
	defer func() {
		switch x := recover().(type) {
		case nil:
		case wrong:
			result, err = "", x.err
		default:
			// No act panics with anything else; if one did, no more could be said than that it cannot be performed.
			result, err = "", api.ErrArg
		}
	}()
	demand(len(line) <= api.MaxAct && !strings.Contains(line, "\n"), api.ErrSyntax)
	words := strings.Split(line, " ")
	a, ok := o.acts()[words[0]]
	demand(ok, api.ErrSyntax)
	return a.do(readArguments(a.form, words)), api.OK
}

// acts returns all acts, by their words.
func (o *Office) acts() map[string]act {
	all := o.makings()
	maps.Copy(all, o.questions())
	maps.Copy(all, o.turnings())
	return all
}

// makings returns the acts that make files of what is given.
func (o *Office) makings() map[string]act {
	return map[string]act{
		"graph":   {"NAME N LISTS", o.graph},
		"net":     {"NAME N LISTS", o.net},
		"fork":    {"NAME TEXT", o.fork},
		"chain":   {"NAME TEXT", o.chain},
		"list":    {"NAME LIST LISTS", o.list},
		"pile":    {"NAME LIST", o.pile},
		"table":   {"NAME LISTS", o.table},
		"miles":   {"NAME LISTS", o.miles},
		"line":    {"NAME N LISTS", o.line},
		"machine": {"NAME LISTS", o.machine},
		"mark":    {"NAME TEXT", o.mark},
	}
}

// questions returns the acts that change no file.
func (o *Office) questions() map[string]act {
	return map[string]act{
		"dense":     {"NAME", o.dense},
		"height":    {"NAME", o.height},
		"cores":     {"NAME", o.cores},
		"tree":      {"NAME", o.tree},
		"slack":     {"NAME", o.slack},
		"trees":     {"NAME", o.trees},
		"narrow":    {"NAME U V", o.narrow},
		"vector":    {"NAME", o.vector},
		"below":     {"NAME OTHER", o.below},
		"turns":     {"NAME OTHER", o.turns},
		"cuts":      {"NAME", o.cuts},
		"ring":      {"NAME", o.ring},
		"zero":      {"NAME", o.zero},
		"bound":     {"NAME", o.bound},
		"numbers":   {"NAME", o.numbers},
		"index":     {"NAME", o.index},
		"permanent": {"NAME", o.permanent},
		"choose":    {"NAME", o.choose},
		"best":      {"NAME", o.best},
		"bounded":   {"NAME STEPS", o.bounded},
		"metric":    {"NAME", o.metric},
		"time":      {"NAME FROM", o.time},
		"centers":   {"NAME", o.centers},
		"reset":     {"NAME", o.reset},
		"rank":      {"NAME", o.rank},
		"square":    {"NAME", o.square},
		"greatest":  {"NAME", o.greatest},
	}
}

// turnings returns the acts that make files of other files, or remove them.
func (o *Office) turnings() map[string]act {
	return map[string]act{
		"second": {"NAME NEW", o.second},
		"mirror": {"NAME NEW", o.mirror},
		"meet":   {"NAME OTHER NEW", o.meet},
		"join":   {"NAME OTHER NEW", o.join},
		"spread": {"NAME NEW", o.spread},
		"ways":   {"NAME NEW", o.ways},
		"shown":  {"NAME NEW", o.shown},
		"drop":   {"NAME", o.drop},
	}
}
