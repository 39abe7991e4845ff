package vm

import (
	"slices"

	"minstrel/api"
)

// script is the functions of a script, each ahead of those within itself, as prog.Flat has them: the first is the whole script. (Flat's own are each a copy with all that is within it, which is far more than a run needs.)
type script []*function

// function is one of a script's.
type function struct {
	api.Proto
	script, place int   // which script's, and where it stands there
	within        []int // where the functions within it stand there
}

// scriptOf is the script with that number.
func scriptOf(p api.Proto, number int) script {
	var s script
	var lay func(p api.Proto) int
	lay = func(p api.Proto) int {
		f := &function{Proto: p, script: number, place: len(s)}
		s = append(s, f)
		for _, in := range p.Protos {
			f.within = append(f.within, lay(in))
		}
		return f.place
	}
	lay(p)
	return s
}

// copied is p with lists of its own.
func copied(p api.Proto) api.Proto {
	p.Ups, p.Code, p.Consts, p.Protos = slices.Clone(p.Ups), slices.Clone(p.Code), slices.Clone(p.Consts), slices.Clone(p.Protos)
	for i, in := range p.Protos {
		p.Protos[i] = copied(in)
	}
	return p
}
