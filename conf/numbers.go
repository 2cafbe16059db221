package conf

import (
	"escapement/api"
	"escapement/pack"
)

// numbers is the row of numbers whose bytes are a configuration's.
func numbers(c api.Config) []int {
	row := []int{len(c.Parts)}
	for _, p := range c.Parts {
		row = append(row, p.Period, p.Budget, len(p.Tasks))
		for _, t := range p.Tasks {
			row = append(row, t.Period, t.Deadline, t.Bound, t.Locals, t.Local, t.Global, t.Long, t.Locks)
		}
	}
	row = append(row, len(c.Ports))
	for _, p := range c.Ports {
		row = append(row, p.Kind, p.From, p.To, p.Size, p.Depth, p.Age)
	}
	return row
}

// read is the configuration, which may not be one that may be, of whose numbers these are the bytes.
func read(b []byte) (api.Config, api.Errno) {
	r := pack.Read(b)
	c := api.Config{}
	c.Parts = readParts(r)
	c.Ports = readPorts(r)
	e := r.End()
	// Counts alone are read with a limit of their own.
	if e == api.ErrLimit {
		e = api.ErrConf
	}
	return c, e
}

// readParts reads how many partitions there are, and them. With an error its counts are 0, so it ends.
func readParts(r *pack.Reader) []api.Part {
	l := make([]api.Part, r.Num(api.MaxParts))
	for i := range l {
		readRow(r, &l[i].Period, &l[i].Budget)
		l[i].Tasks = readTasks(r)
	}
	return l
}

// readTasks reads how many tasks a partition has, and them.
func readTasks(r *pack.Reader) []api.Task {
	l := make([]api.Task, r.Num(api.MaxTasks))
	for i := range l {
		t := &l[i]
		readRow(r, &t.Period, &t.Deadline, &t.Bound, &t.Locals, &t.Local, &t.Global, &t.Long, &t.Locks)
	}
	return l
}

// readPorts reads how many ports there are, and them.
func readPorts(r *pack.Reader) []api.Port {
	l := make([]api.Port, r.Num(api.MaxPorts))
	for i := range l {
		p := &l[i]
		readRow(r, &p.Kind, &p.From, &p.To, &p.Size, &p.Depth, &p.Age)
	}
	return l
}

// readRow reads numbers, one behind the other, to where each one belongs.
func readRow(r *pack.Reader, row ...*int) {
	for _, n := range row {
		*n = r.Num(api.MaxNumber)
	}
}
