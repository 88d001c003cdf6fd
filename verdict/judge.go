package verdict

import (
	"caltrop/api"
	"caltrop/auto"
	"caltrop/degree"
	"caltrop/pump"
	"caltrop/square"
	"caltrop/stop"
	"caltrop/vector"
)

// A judge is what a verdict was asked for, and what the phases have made of it so
// far: those behind others need what these made.
type judge struct {
	pattern      string
	mode, budget int
	auto         *auto.Auto
	square       *square.Square
	growth       *degree.Growth
}

// A phase tells a verdict, or an empty one, if it leaves it to those behind it.
type phase func(j *judge) Record

// phases are all phases, in the order in which they are asked.
func phases() [7]phase {
	return [...]phase{
		(*judge).allow,
		(*judge).read,
		(*judge).pair,
		(*judge).grow,
		(*judge).limit,
		(*judge).attack,
		(*judge).bound,
	}
}

// allow tells of a budget that can't be.
func (j *judge) allow() Record {
	if j.budget < 0 {
		return Record{Err: api.ErrArg}
	}
	return Record{}
}

// read makes the automaton.
func (j *judge) read() Record {
	a, at, e := auto.Parse(j.pattern, j.mode)
	j.auto = a
	return Record{Err: e, At: at}
}

// pair makes the square.
func (j *judge) pair() Record {
	s, e := square.New(j.auto)
	j.square = s
	return Record{Err: e}
}

// grow makes the growth, and the cube with it, if no position splits: as there is a
// square, its error is the cube's.
func (j *judge) grow() Record {
	g, e := degree.New(j.auto)
	j.growth = g
	return Record{Err: e}
}

// counted is a record of a kind, with what was counted ahead of it. Where a position
// splits there is no cube, and so no triples.
func (j *judge) counted(kind int) Record {
	return Record{
		Kind:    kind,
		Places:  j.auto.Places(),
		Live:    len(j.square.Live()),
		Pairs:   j.square.Pairs(),
		Triples: j.growth.Cube().Triples(),
	}
}

// limit tells that the budget doesn't do for pairs, or triples.
func (j *judge) limit() Record {
	if r := j.counted(Unknown); max(r.Pairs, r.Triples) > j.budget {
		return r
	}
	return Record{}
}

// attack tells the family of what isn't flat, and its tail.
func (j *judge) attack() Record {
	if j.growth.Kind() == degree.Flat {
		return Record{}
	}
	f, _ := pump.Find(j.auto) // there is one, as it isn't flat
	z, e := stop.Attack(j.auto, f, j.budget)
	r := j.counted(f.Kind)
	r.Degree, _ = j.growth.Degree()
	r.X, r.Y, r.Z, r.Stops = f.X, f.Y, z, e == api.OK
	return r
}

// bound tells the most runs of what is flat, if the budget does for its vectors.
func (j *judge) bound() Record {
	v, e := vector.New(j.auto, j.budget)
	if e != api.OK {
		return j.counted(Unknown)
	}
	r := j.counted(degree.Flat)
	r.Most, r.Vectors = v.Most(), v.Count()
	return r
}
