package turn

import (
	"escapement/api"
	"escapement/purse"
)

// latest is the last tick at which a server of a plan may begin.
const latest = 1000

// server is one of a plan: its purse is full at the tick at which it begins.
type server struct {
	purse *purse.Purse
	begin int
}

// serversOf is the servers of partitions, each with where it begins.
func serversOf(l []api.Part, begins []int) ([]server, api.Errno) {
	if len(begins) != len(l) {
		return nil, api.ErrArg
	}
	servers := make([]server, len(l))
	for i, p := range l {
		begin := begins[i]
		if begin < 0 || begin > latest {
			return nil, api.ErrArg
		}
		full, e := purse.New(p.Period, p.Budget, begin)
		if e != api.OK {
			return nil, e
		}
		servers[i] = server{full, begin}
	}
	return servers, api.OK
}

// run charges the one that runs at a tick, and tells which it is. The ticks ahead of it have gone by.
func run(servers []server, tick int) int {
	purses := turned(servers, tick)
	i, is := Who(purses)
	if !is {
		return nobody
	}
	purses[i].Charge()
	return i
}

// turned is the servers' purses, turned at the beginning of a tick: nil, where one has not begun.
func turned(servers []server, tick int) []*purse.Purse {
	purses := make([]*purse.Purse, len(servers))
	for i, s := range servers {
		if s.begin <= tick {
			s.purse.Turn(tick)
			purses[i] = s.purse
		}
	}
	return purses
}
