package conf_test

import (
	"bytes"
	"encoding/binary"
	"encoding/hex"
	"fmt"
	"math"
	"math/rand"
	"reflect"
	"slices"
	"strings"
	"testing"

	"escapement/api"
	"escapement/conf"
)

const greatest = api.MaxNumber

// unhex is bytes that are written as digits, with blanks between.
func unhex(s string) []byte {
	b, err := hex.DecodeString(strings.ReplaceAll(s, " ", ""))
	if err != nil {
		panic(err)
	}
	return b
}

// model is the bytes of numbers, as chapter 4 says them.
func model(l ...int) []byte {
	var b []byte
	for _, n := range l {
		if n < 255 {
			b = append(b, byte(n))
			continue
		}
		b = binary.BigEndian.AppendUint64(append(b, 255), uint64(n-254))
	}
	return b
}

// raw is a byte 255, and behind it the eight bytes of any number.
func raw(above uint64) []byte {
	return binary.BigEndian.AppendUint64([]byte{255}, above)
}

// modelBytes is the bytes of a configuration, as the chapter says them.
func modelBytes(c api.Config) []byte {
	b := model(len(c.Parts))
	for _, p := range c.Parts {
		b = append(b, model(p.Period, p.Budget, len(p.Tasks))...)
		for _, t := range p.Tasks {
			b = append(b, model(t.Period, t.Deadline, t.Bound)...)
			b = append(b, model(t.Locals, t.Local)...)
			b = append(b, model(t.Global, t.Long, t.Locks)...)
		}
	}
	b = append(b, model(len(c.Ports))...)
	for _, p := range c.Ports {
		b = append(b, model(p.Kind, p.From, p.To, p.Size, p.Depth, p.Age)...)
	}
	return b
}

// modelTask tells whether a task may be, as the chapter says it.
func modelTask(t api.Task, budget int) bool {
	if t.Period > 64 || t.Deadline > t.Period || t.Bound > t.Deadline || t.Bound < 1 {
		return false
	}
	switch {
	case t.Locals < 0, t.Locals > 255:
		return false
	case t.Locals == 0 && t.Local != 0:
		return false
	case t.Locals != 0 && (t.Local < 1 || t.Local > t.Bound):
		return false
	}
	switch {
	case t.Global < 0, t.Global > 4:
		return false
	case t.Global == 0:
		return t.Long == 0 && t.Locks == 0
	}
	// Both are held against Bound first, so that the product is small.
	if t.Long < 1 || t.Locks < 1 || t.Long > t.Bound || t.Locks > t.Bound {
		return false
	}
	return t.Long*t.Locks <= t.Bound && t.Long <= budget
}

// modelPort tells whether a port may be, as the chapter says it.
func modelPort(p api.Port, parts int) bool {
	if p.From < 0 || p.To < 0 || p.From >= parts || p.To >= parts || p.From == p.To || p.Size < 1 || p.Size > 16 {
		return false
	}
	isSample := p.Kind == 1 && p.Depth == 0 && p.Age >= 1 && p.Age <= 64
	isQueue := p.Kind == 2 && p.Age == 0 && p.Depth >= 1 && p.Depth <= 4
	return isSample || isQueue
}

// modelCheck is Check, as the chapter says it.
func modelCheck(c api.Config) api.Errno {
	if len(c.Parts) < 1 || len(c.Parts) > 4 || len(c.Ports) > 8 {
		return api.ErrConf
	}
	for _, p := range c.Parts {
		if p.Period < 1 || p.Period > 64 || p.Budget < 1 || p.Budget > p.Period || len(p.Tasks) > 4 {
			return api.ErrConf
		}
		for _, t := range p.Tasks {
			if !modelTask(t, p.Budget) {
				return api.ErrConf
			}
		}
	}
	for _, p := range c.Ports {
		if !modelPort(p, len(c.Parts)) {
			return api.ErrConf
		}
	}
	return api.OK
}

// modelReader reads numbers, till there is an error.
type modelReader struct {
	b []byte
	e api.Errno
}

func (m *modelReader) num() int {
	switch {
	case m.e != api.OK:
		return 0
	case len(m.b) == 0, m.b[0] == 255 && len(m.b) < 9:
		m.e = api.ErrTrunc
		return 0
	case m.b[0] < 255:
		n := int(m.b[0])
		m.b = m.b[1:]
		return n
	}
	above := binary.BigEndian.Uint64(m.b[1:9])
	m.b = m.b[9:]
	if above == 0 || above > greatest-254 {
		m.e = api.ErrSyntax
		return 0
	}
	return int(above) + 254
}

func (m *modelReader) count(most int) int {
	n := m.num()
	if m.e == api.OK && n > most {
		m.e = api.ErrConf
	}
	if m.e != api.OK {
		return 0
	}
	return n
}

// modelParse is Parse, as the chapter says it.
func modelParse(b []byte) (api.Config, api.Errno) {
	m := &modelReader{b: b}
	var c api.Config
	for range m.count(4) {
		p := api.Part{Period: m.num(), Budget: m.num()}
		for range m.count(4) {
			p.Tasks = append(p.Tasks, api.Task{Period: m.num(), Deadline: m.num(), Bound: m.num(), Locals: m.num(), Local: m.num(), Global: m.num(), Long: m.num(), Locks: m.num()})
		}
		c.Parts = append(c.Parts, p)
	}
	for range m.count(8) {
		c.Ports = append(c.Ports, api.Port{Kind: m.num(), From: m.num(), To: m.num(), Size: m.num(), Depth: m.num(), Age: m.num()})
	}
	if m.e == api.OK && len(m.b) > 0 {
		m.e = api.ErrSyntax
	}
	if m.e == api.OK {
		m.e = modelCheck(c)
	}
	if m.e != api.OK {
		return api.Config{}, m.e
	}
	return c, api.OK
}

// clone is the same configuration in new memory, its lists without elements nil.
func clone(c api.Config) api.Config {
	out := api.Config{Parts: append([]api.Part(nil), c.Parts...), Ports: append([]api.Port(nil), c.Ports...)}
	for i := range out.Parts {
		out.Parts[i].Tasks = append([]api.Task(nil), out.Parts[i].Tasks...)
	}
	return out
}

// same tells whether two configurations have the same elements.
func same(a, b api.Config) bool {
	return reflect.DeepEqual(clone(a), clone(b))
}

// full is a configuration that may be, with something of each kind, and unlike numbers.
func full() api.Config {
	return api.Config{
		Parts: []api.Part{
			{Period: 40, Budget: 30, Tasks: []api.Task{
				{Period: 60, Deadline: 50, Bound: 20, Locals: 129, Local: 7, Global: 3, Long: 5, Locks: 4},
				{Period: 33, Deadline: 32, Bound: 31},
			}},
			{Period: 8, Budget: 8},
			{Period: 13, Budget: 1, Tasks: []api.Task{{Period: 64, Deadline: 63, Bound: 2, Locals: 255, Local: 2}}},
		},
		Ports: []api.Port{
			{Kind: api.PortSample, From: 0, To: 2, Size: 15, Age: 17},
			{Kind: api.PortQueue, From: 2, To: 1, Size: 16, Depth: 4},
			{Kind: api.PortQueue, From: 1, To: 0, Size: 1, Depth: 3},
		},
	}
}

// simple is the chapter's example: one partition 10/4, one task 20 12 3.
func simple() api.Config {
	return api.Config{Parts: []api.Part{{Period: 10, Budget: 4, Tasks: []api.Task{{Period: 20, Deadline: 12, Bound: 3}}}}}
}

const simpleBytes = "01 0A 04 01 14 0C 03 00 00 00 00 00 00"

// wantCheck fails the test unless Check and Bytes answer that a configuration may be, or may not.
func wantCheck(t *testing.T, what string, c api.Config, may bool) {
	t.Helper()
	want, wantBytes := api.ErrConf, []byte(nil)
	if may {
		want, wantBytes = api.OK, modelBytes(c)
	}
	if e := conf.Check(c); e != want {
		t.Errorf("%s: Check: %d, want %d", what, e, want)
	}
	b, e := conf.Bytes(c)
	if e != want || !bytes.Equal(b, wantBytes) {
		t.Errorf("%s: Bytes: % X, error %d; want % X, error %d", what, b, e, wantBytes, want)
	}
}

// wantParse fails the test unless Parse answers that configuration.
func wantParse(t *testing.T, what string, b []byte, want api.Config) {
	t.Helper()
	c, e := conf.Parse(b)
	if e != api.OK || !same(c, want) {
		t.Errorf("%s: Parse(% X): %v, error %d; want %v", what, b, c, e, want)
	}
}

// wantError fails the test unless Parse answers that error, and the zero configuration.
func wantError(t *testing.T, what string, b []byte, want api.Errno) {
	t.Helper()
	c, e := conf.Parse(b)
	if e != want {
		t.Errorf("%s: Parse(% X): error %d, want %d", what, b, e, want)
	}
	if len(c.Parts) != 0 || len(c.Ports) != 0 {
		t.Errorf("%s: Parse(% X): beside an error %v", what, b, c)
	}
}

// The chapter's examples.
func TestExamples(t *testing.T) {
	b, e := conf.Bytes(simple())
	if e != api.OK || !bytes.Equal(b, unhex(simpleBytes)) {
		t.Errorf("Bytes: % X, error %d", b, e)
	}
	wantParse(t, "these", unhex(simpleBytes), simple())
	wantError(t, "the first 12", unhex(simpleBytes)[:12], api.ErrTrunc)
	wantError(t, "these and 00", unhex(simpleBytes+"00"), api.ErrSyntax)
	wantCheck(t, "no partitions", api.Config{}, false)
	long := simple()
	long.Parts[0].Tasks[0].Bound = 13
	wantCheck(t, "a task 20 12 13", long, false)
	wantError(t, "Parse(05)", []byte{5}, api.ErrConf)
}

// The document's examples of the whole that tell a configuration's bytes.
func TestExamplesOfTheWhole(t *testing.T) {
	c := api.Config{Parts: []api.Part{{Period: 4, Budget: 2, Tasks: []api.Task{{Period: 8, Deadline: 8, Bound: 2}}}}}
	b, e := conf.Bytes(c)
	if e != api.OK || !bytes.Equal(b, unhex("01 04 02 01 08 08 02 00 00 00 00 00 00")) {
		t.Errorf("Bytes: % X, error %d", b, e)
	}
	wantParse(t, "4 2", unhex("01 04 02 00 00"), api.Config{Parts: []api.Part{{Period: 4, Budget: 2}}})
}

// P5.1: a partition's Period and Budget, at both ends and beyond.
func TestServerEdges(t *testing.T) {
	for _, row := range []struct {
		period, budget int
		may            bool
	}{
		{1, 1, true}, {64, 1, true}, {64, 64, true}, {64, 63, true}, {2, 2, true}, {10, 10, true}, {10, 9, true},
		{0, 0, false}, {0, 1, false}, {-1, 1, false}, {-1, -1, false}, {-4, -6, false},
		{65, 1, false}, {65, 65, false}, {1, 2, false}, {1, 0, false}, {10, 0, false}, {10, -1, false}, {10, 11, false}, {64, 65, false},
		{math.MinInt, 1, false}, {math.MaxInt, 1, false}, {5, math.MinInt, false}, {5, math.MaxInt, false}, {math.MaxInt, math.MaxInt, false}, {math.MinInt, math.MinInt, false},
		{256 + 4, 1, false}, {1<<32 + 4, 1, false},
	} {
		c := api.Config{Parts: []api.Part{{Period: row.period, Budget: row.budget}}}
		wantCheck(t, fmt.Sprintf("a partition %d/%d", row.period, row.budget), c, row.may)
	}
}

// P5.1: a task's numbers, at both ends and beyond, in a partition 20/10.
func TestTaskEdges(t *testing.T) {
	type task = api.Task
	for _, row := range []struct {
		t   task
		may bool
	}{
		{task{Period: 1, Deadline: 1, Bound: 1}, true},
		{task{Period: 64, Deadline: 64, Bound: 64}, true},
		{task{Period: 64, Deadline: 1, Bound: 1}, true},
		{task{Period: 64, Deadline: 64, Bound: 1}, true},
		{task{Period: 30, Deadline: 29, Bound: 28}, true},
		{task{}, false},
		{task{Period: 0, Deadline: 1, Bound: 1}, false},
		{task{Period: -1, Deadline: 1, Bound: 1}, false},
		{task{Period: 65, Deadline: 64, Bound: 1}, false},
		{task{Period: 65, Deadline: 65, Bound: 65}, false},
		{task{Period: 30, Deadline: 31, Bound: 1}, false},
		{task{Period: 30, Deadline: 0, Bound: 1}, false},
		{task{Period: 30, Deadline: 0, Bound: 0}, false},
		{task{Period: 30, Deadline: -1, Bound: -1}, false},
		{task{Period: 30, Deadline: -1, Bound: -2}, false},
		{task{Period: 30, Deadline: 20, Bound: 0}, false},
		{task{Period: 30, Deadline: 20, Bound: -1}, false},
		{task{Period: 30, Deadline: 20, Bound: 20}, true},
		{task{Period: 30, Deadline: 20, Bound: 21}, false},
		{task{Period: 30, Deadline: 20, Bound: 30}, false},
		{task{Period: math.MaxInt, Deadline: 20, Bound: 3}, false},
		{task{Period: 30, Deadline: math.MinInt, Bound: 3}, false},
		{task{Period: 30, Deadline: 20, Bound: math.MinInt}, false},
		{task{Period: 30, Deadline: 20, Bound: math.MaxInt}, false},
		{task{Period: 64 + 256, Deadline: 20, Bound: 3}, false},
	} {
		c := api.Config{Parts: []api.Part{{Period: 20, Budget: 10, Tasks: []api.Task{row.t}}}}
		wantCheck(t, fmt.Sprintf("a task %+v", row.t), c, row.may)
	}
}

// P5.1: a task's local resources, of a Bound of 12.
func TestLocalEdges(t *testing.T) {
	for _, row := range []struct {
		locals, local int
		may           bool
	}{
		{0, 0, true}, {1, 1, true}, {255, 1, true}, {1, 12, true}, {255, 12, true}, {128, 5, true}, {254, 5, true},
		{0, 1, false}, {0, -1, false}, {0, 12, false}, {0, math.MinInt, false}, {0, math.MaxInt, false},
		{1, 0, false}, {255, 0, false}, {1, -1, false}, {1, 13, false}, {255, 13, false}, {255, 20, false},
		{-1, 1, false}, {-1, 0, false}, {256, 1, false}, {256, 0, false}, {257, 1, false},
		{math.MinInt, 1, false}, {math.MaxInt, 1, false}, {1, math.MinInt, false}, {1, math.MaxInt, false},
	} {
		c := api.Config{Parts: []api.Part{{Period: 20, Budget: 10, Tasks: []api.Task{{Period: 40, Deadline: 20, Bound: 12, Locals: row.locals, Local: row.local}}}}}
		wantCheck(t, fmt.Sprintf("Locals %d, Local %d", row.locals, row.local), c, row.may)
	}
}

// P5.1: what a task takes of what partitions share: Long times Locks at most Bound, Long at most the Budget.
func TestGlobalEdges(t *testing.T) {
	for _, row := range []struct {
		budget, bound, global, long, locks int
		may                                bool
	}{
		{10, 12, 0, 0, 0, true}, {10, 12, 1, 1, 1, true}, {10, 12, 4, 1, 1, true}, {10, 12, 2, 3, 4, true}, {10, 12, 2, 4, 3, true}, {10, 12, 2, 1, 12, true}, {10, 12, 2, 10, 1, true},
		{10, 13, 2, 3, 4, true}, {10, 14, 2, 3, 4, true}, {12, 12, 2, 12, 1, true},
		{10, 12, 5, 1, 1, false}, {10, 12, -1, 1, 1, false}, {10, 12, -1, 0, 0, false}, {10, 12, 5, 0, 0, false}, {10, 12, math.MinInt, 1, 1, false}, {10, 12, math.MaxInt, 1, 1, false},
		{10, 12, 0, 1, 0, false}, {10, 12, 0, 0, 1, false}, {10, 12, 0, 1, 1, false}, {10, 12, 0, -1, 0, false}, {10, 12, 0, 0, -1, false},
		{10, 12, 1, 0, 0, false}, {10, 12, 1, 0, 1, false}, {10, 12, 1, 1, 0, false}, {10, 12, 4, 0, 5, false}, {10, 12, 4, 5, 0, false},
		{10, 12, 1, -1, 1, false}, {10, 12, 1, 1, -1, false}, {10, 12, 1, -1, -1, false}, {10, 12, 1, -3, -4, false},
		{10, 11, 2, 3, 4, false}, {10, 11, 2, 4, 3, false}, {10, 12, 2, 1, 13, false}, {10, 12, 2, 5, 3, false}, {10, 12, 2, 7, 2, false}, {10, 1, 2, 2, 1, false},
		{10, 12, 2, 11, 1, false}, {9, 12, 2, 10, 1, false}, {10, 20, 2, 11, 1, false}, {11, 20, 2, 11, 1, true}, {1, 20, 2, 1, 20, true}, {1, 20, 2, 2, 1, false},
		{10, 12, 1, 1 << 32, 1 << 32, false}, {10, 12, 1, 2, 1 << 63 >> 1, false}, {10, 12, 1, 1, math.MaxInt, false}, {10, 12, 1, math.MaxInt, 1, false},
		{10, 12, 1, math.MaxInt, math.MaxInt, false}, {10, 12, 1, 2, math.MinInt, false}, {10, 12, 1, math.MinInt, 2, false}, {10, 12, 1, 4, 1 << 62, false}, {10, 12, 1, 2, math.MaxInt/2 + 2, false},
	} {
		task := api.Task{Period: 40, Deadline: 20, Bound: row.bound, Global: row.global, Long: row.long, Locks: row.locks}
		c := api.Config{Parts: []api.Part{{Period: 20, Budget: row.budget, Tasks: []api.Task{task}}}}
		wantCheck(t, fmt.Sprintf("%+v", row), c, row.may)
	}
}

// P5.1: a task's Long is held against its own partition's Budget.
func TestLongOfItsPartition(t *testing.T) {
	task := api.Task{Period: 40, Deadline: 20, Bound: 12, Global: 1, Long: 6, Locks: 2}
	for _, row := range []struct {
		own, other int
		may        bool
	}{{6, 5, true}, {5, 6, false}, {6, 6, true}, {5, 5, false}} {
		for at := range 2 {
			c := api.Config{Parts: []api.Part{{Period: 20, Budget: row.other}, {Period: 20, Budget: row.other}}}
			c.Parts[at] = api.Part{Period: 20, Budget: row.own, Tasks: []api.Task{task}}
			wantCheck(t, fmt.Sprintf("partition %d: Budget %d, others %d", at, row.own, row.other), c, row.may)
		}
	}
}

// P5.1: a port's numbers, at both ends and beyond, between three partitions.
func TestPortEdges(t *testing.T) {
	type port = api.Port
	sample, queue := port{Kind: 1, From: 0, To: 1, Size: 8, Age: 9}, port{Kind: 2, From: 2, To: 0, Size: 8, Depth: 2}
	with := func(p port, change func(p *port)) port {
		change(&p)
		return p
	}
	type row struct {
		p   port
		may bool
	}
	rows := []row{
		{port{}, false}, {sample, true}, {queue, true},
		{port{Kind: 1, From: 0, To: 1, Size: 8, Depth: 1, Age: 9}, false},
		{port{Kind: 1, From: 0, To: 1, Size: 8, Depth: -1, Age: 9}, false},
		{port{Kind: 1, From: 0, To: 1, Size: 8, Depth: 2}, false},
		{port{Kind: 2, From: 0, To: 1, Size: 8, Depth: 2, Age: 1}, false},
		{port{Kind: 2, From: 0, To: 1, Size: 8, Depth: 2, Age: -1}, false},
		{port{Kind: 2, From: 0, To: 1, Size: 8, Age: 9}, false},
		{port{Kind: 2, From: 0, To: 1, Size: 8}, false},
		{port{Kind: 1, From: 0, To: 1, Size: 8}, false},
	}
	for _, kind := range []int{0, 3, -1, 257, math.MinInt, math.MaxInt} {
		rows = append(rows, row{with(sample, func(p *port) { p.Kind = kind }), false}, row{with(queue, func(p *port) { p.Kind = kind }), false})
	}
	for _, n := range []int{-1, 0, 1, 2, 3, 4, 8, 15, 16, 17, 63, 64, 65, 256 + 1, math.MinInt, math.MaxInt} {
		rows = append(rows,
			row{with(sample, func(p *port) { p.Size = n }), n >= 1 && n <= 16},
			row{with(queue, func(p *port) { p.Size = n }), n >= 1 && n <= 16},
			row{with(sample, func(p *port) { p.Age = n }), n >= 1 && n <= 64},
			row{with(sample, func(p *port) { p.Depth = n }), n == 0},
			row{with(queue, func(p *port) { p.Depth = n }), n >= 1 && n <= 4},
			row{with(queue, func(p *port) { p.Age = n }), n == 0},
			row{with(sample, func(p *port) { p.From = n }), n == 0 || n == 2},
			row{with(sample, func(p *port) { p.To = n }), n == 1 || n == 2},
			row{with(queue, func(p *port) { p.From = n }), n == 1 || n == 2},
			row{with(queue, func(p *port) { p.To = n }), n == 0 || n == 1},
		)
	}
	for _, row := range rows {
		c := api.Config{Parts: []api.Part{{Period: 4, Budget: 1}, {Period: 4, Budget: 1}, {Period: 4, Budget: 1}}, Ports: []api.Port{row.p}}
		wantCheck(t, fmt.Sprintf("a port %+v", row.p), c, row.may)
	}
}

// P5.1: a port goes from and to partitions that there are, however many.
func TestPortEnds(t *testing.T) {
	for parts := 1; parts <= 4; parts++ {
		for from := -1; from <= 5; from++ {
			for to := -1; to <= 5; to++ {
				c := api.Config{Ports: []api.Port{{Kind: 2, From: from, To: to, Size: 1, Depth: 1}}}
				for range parts {
					c.Parts = append(c.Parts, api.Part{Period: 1, Budget: 1})
				}
				may := from != to && from >= 0 && from < parts && to >= 0 && to < parts
				wantCheck(t, fmt.Sprintf("%d partitions, a port from %d to %d", parts, from, to), c, may)
			}
		}
	}
}

// counted is a configuration of so many partitions, tasks of each one, and ports, each of which may be, if there are two partitions.
func counted(parts, tasks, ports int) api.Config {
	var c api.Config
	for range parts {
		p := api.Part{Period: 10, Budget: 4}
		for range tasks {
			p.Tasks = append(p.Tasks, api.Task{Period: 20, Deadline: 12, Bound: 3})
		}
		c.Parts = append(c.Parts, p)
	}
	for range ports {
		c.Ports = append(c.Ports, api.Port{Kind: 2, From: 1, To: 0, Size: 1, Depth: 1})
	}
	return c
}

// P5.1, P5.2: how many partitions, tasks and ports there may be; and their bytes, if there are more.
func TestCounts(t *testing.T) {
	for parts := range 8 {
		for tasks := range 7 {
			for ports := range 12 {
				c := counted(parts, tasks, ports)
				what := fmt.Sprintf("%d partitions, %d tasks, %d ports", parts, tasks, ports)
				may := parts >= 1 && parts <= 4 && tasks <= 4 && ports <= 8 && (parts >= 2 || ports == 0)
				wantCheck(t, what, c, may)
				if may {
					wantParse(t, what, modelBytes(c), c)
				} else {
					wantError(t, what, modelBytes(c), api.ErrConf)
				}
			}
		}
	}
}

// P5.1: lists without elements may be nil or not; long ones are told, too.
func TestLists(t *testing.T) {
	c := api.Config{Parts: []api.Part{{Period: 4, Budget: 2, Tasks: []api.Task{}}}, Ports: []api.Port{}}
	wantCheck(t, "empty lists", c, true)
	wantParse(t, "empty lists", modelBytes(c), c)
	wantCheck(t, "no partitions, not nil", api.Config{Parts: []api.Part{}}, false)
	wantCheck(t, "no partitions, a port", api.Config{Ports: []api.Port{{Kind: 2, From: 1, To: 0, Size: 1, Depth: 1}}}, false)
	wantCheck(t, "many", counted(1000, 0, 0), false)
	wantCheck(t, "many tasks", counted(1, 1000, 0), false)
	wantCheck(t, "many ports", counted(2, 0, 1000), false)
}

// P5.1: one that may not be is told, wherever it stands.
func TestBadAnywhere(t *testing.T) {
	for at := range 4 {
		c := counted(4, 4, 8)
		c.Parts[at].Budget = 11
		wantCheck(t, fmt.Sprintf("partition %d", at), c, false)
		wantError(t, fmt.Sprintf("partition %d", at), modelBytes(c), api.ErrConf)
		for i := range 4 {
			c = counted(4, 4, 8)
			c.Parts[at].Tasks[i].Bound = 0
			wantCheck(t, fmt.Sprintf("partition %d, task %d", at, i), c, false)
			wantError(t, fmt.Sprintf("partition %d, task %d", at, i), modelBytes(c), api.ErrConf)
		}
	}
	for at := range 8 {
		c := counted(4, 4, 8)
		c.Ports[at].Size = 17
		wantCheck(t, fmt.Sprintf("port %d", at), c, false)
		wantError(t, fmt.Sprintf("port %d", at), modelBytes(c), api.ErrConf)
	}
	wantCheck(t, "all right", counted(4, 4, 8), true)
}

// P5.1, P5.2: the numbers in their order, written out.
func TestBytesOrder(t *testing.T) {
	want := unhex("03" +
		"28 1E 02" + "3C 32 14 81 07 03 05 04" + "21 20 1F 00 00 00 00 00" +
		"08 08 00" +
		"0D 01 01" + "40 3F 02 FF 00 00 00 00 00 00 00 01 02 00 00 00" +
		"03" + "01 00 02 0F 00 11" + "02 02 01 10 04 00" + "02 01 00 01 03 00")
	b, e := conf.Bytes(full())
	if e != api.OK || !bytes.Equal(b, want) {
		t.Errorf("Bytes: % X, error %d; want % X", b, e, want)
	}
	wantParse(t, "these", want, full())
}

// P5.2: a number that tells an error, at the place of each one, in whatever order.
func TestParseNumberErrors(t *testing.T) {
	row := []int{2, 10, 4, 1, 20, 12, 3, 0, 0, 0, 0, 0, 5, 5, 0, 1, 2, 0, 1, 1, 1, 0}
	wantParse(t, "the row", model(row...), api.Config{
		Parts: []api.Part{{Period: 10, Budget: 4, Tasks: []api.Task{{Period: 20, Deadline: 12, Bound: 3}}}, {Period: 5, Budget: 5}},
		Ports: []api.Port{{Kind: 2, From: 0, To: 1, Size: 1, Depth: 1}},
	})
	for at := range row {
		ahead, behind := model(row[:at]...), model(row[at+1:]...)
		for _, bad := range [][]byte{raw(0), raw(greatest - 254 + 1), raw(1 << 53), raw(math.MaxUint64), raw(1 << 63)} {
			wantError(t, fmt.Sprintf("number %d", at), slices.Concat(ahead, bad, behind), api.ErrSyntax)
			wantError(t, fmt.Sprintf("number %d, the last", at), slices.Concat(ahead, bad), api.ErrSyntax)
			wantError(t, fmt.Sprintf("number %d, cut", at), slices.Concat(ahead, bad[:8]), api.ErrTrunc)
		}
		for _, great := range [][]byte{model(255), model(256), model(1<<32 + row[at]), model(greatest)} {
			wantError(t, fmt.Sprintf("number %d, too great", at), slices.Concat(ahead, great, behind), api.ErrConf)
		}
		wantError(t, fmt.Sprintf("number %d, none", at), ahead, api.ErrTrunc)
		wantError(t, fmt.Sprintf("number %d, 255 alone", at), append(ahead, 255), api.ErrTrunc)
	}
}

// P5.2: a count that is too great is told at once, whatever stands behind it.
func TestParseCounts(t *testing.T) {
	for _, row := range []struct {
		what  string
		ahead []int
		most  int
	}{
		{"partitions", nil, 4},
		{"tasks", []int{1, 10, 4}, 4},
		{"tasks of the second", []int{2, 10, 4, 0, 10, 4}, 4},
		{"tasks, of a partition that may not be", []int{1, 0, 99}, 4},
		{"ports", []int{1, 10, 4, 0}, 8},
		{"ports, of no partitions", []int{0}, 8},
		{"ports, behind a task that may not be", []int{1, 10, 4, 1, 0, 0, 0, 0, 0, 0, 0, 0}, 8},
	} {
		for _, behind := range [][]byte{nil, {0}, {255}, raw(0), raw(math.MaxUint64), bytes.Repeat([]byte{1}, 300)} {
			for _, count := range []int{row.most + 1, row.most + 2, 100, 254, 255, 1 << 32, 1<<32 + 1, greatest} {
				wantError(t, fmt.Sprintf("%d %s", count, row.what), slices.Concat(model(row.ahead...), model(count), behind), api.ErrConf)
			}
			for _, bad := range []uint64{0, greatest - 254 + 1, math.MaxUint64} {
				wantError(t, "no count of "+row.what, slices.Concat(model(row.ahead...), raw(bad), behind), api.ErrSyntax)
			}
		}
		wantError(t, "as many as may be of "+row.what, model(append(slices.Clone(row.ahead), row.most)...), api.ErrTrunc)
	}
}

// P5.2: which error comes first, where several things are wrong.
func TestParseFirstError(t *testing.T) {
	for _, row := range []struct {
		what string
		b    []byte
		want api.Errno
	}{
		{"no bytes", nil, api.ErrTrunc},
		{"no bytes, not nil", []byte{}, api.ErrTrunc},
		{"no partitions, cut", []byte{0}, api.ErrTrunc},
		{"no partitions", []byte{0, 0}, api.ErrConf},
		{"no partitions, a byte left", []byte{0, 0, 0}, api.ErrSyntax},
		{"no partitions, a port", []byte{0, 1, 2, 0, 1, 1, 1, 0}, api.ErrConf},
		{"a partition that may not be, cut", []byte{1, 0, 0}, api.ErrTrunc},
		{"a partition that may not be", []byte{1, 0, 0, 0, 0}, api.ErrConf},
		{"a partition that may not be, a byte left", []byte{1, 0, 0, 0, 0, 7}, api.ErrSyntax},
		{"a partition that may not be, and no number", slices.Concat([]byte{1, 0, 0, 0}, raw(0)), api.ErrSyntax},
		{"no number, and then cut", slices.Concat([]byte{1}, raw(0)), api.ErrSyntax},
		{"no number, and then too many tasks", slices.Concat([]byte{1}, raw(0), []byte{2, 5}), api.ErrSyntax},
		{"too many tasks, and then no number", slices.Concat([]byte{1, 4, 2, 5}, raw(0)), api.ErrConf},
		{"too many partitions, and bytes left", []byte{9, 9, 9}, api.ErrConf},
		{"too many ports, and bytes left", []byte{1, 4, 2, 0, 9, 9, 9}, api.ErrConf},
		{"a port that may not be, cut", []byte{1, 4, 2, 0, 1, 3, 0, 0, 0, 0}, api.ErrTrunc},
		{"a port that may not be", []byte{1, 4, 2, 0, 1, 3, 0, 0, 0, 0, 0}, api.ErrConf},
		{"a port that may not be, a byte left", []byte{1, 4, 2, 0, 1, 3, 0, 0, 0, 0, 0, 0}, api.ErrSyntax},
		{"all right, and no number left", slices.Concat([]byte{1, 4, 2, 0, 0}, raw(0)), api.ErrSyntax},
		{"all right, and half a number left", []byte{1, 4, 2, 0, 0, 255}, api.ErrSyntax},
	} {
		wantError(t, row.what, row.b, row.want)
	}
}

// all is a list with all of its spare room.
func all[T any](l []T) []T {
	return l[:cap(l)]
}

// spared is a configuration whose lists have spare room, which is filled.
func spared(c api.Config) api.Config {
	parts := append(clone(c).Parts, api.Part{Period: 77}, api.Part{Period: 78})
	ports := append(clone(c).Ports, api.Port{Kind: 77}, api.Port{Kind: 78})
	for i := range c.Parts {
		tasks := append(parts[i].Tasks, api.Task{Period: 77}, api.Task{Period: 78})
		parts[i].Tasks = tasks[:len(c.Parts[i].Tasks)]
	}
	return api.Config{Parts: parts[:len(c.Parts)], Ports: ports[:len(c.Ports)]}
}

// whole is a configuration with all the spare room of its lists, in new memory.
func whole(c api.Config) api.Config {
	out := clone(api.Config{Parts: all(c.Parts), Ports: all(c.Ports)})
	for i := range c.Parts {
		out.Parts[i].Tasks = slices.Clone(all(c.Parts[i].Tasks))
	}
	return out
}

// P5.3: a configuration that is handed in is only read, its spare room too; its bytes are new each time.
func TestBytesIsNew(t *testing.T) {
	bad := full()
	bad.Ports[2].Size = 17
	for _, c := range []api.Config{full(), simple(), counted(4, 4, 8), bad, {}} {
		given := spared(c)
		was := whole(given)
		conf.Check(given)
		one, e := conf.Bytes(given)
		other, _ := conf.Bytes(given)
		if !reflect.DeepEqual(whole(given), was) {
			t.Errorf("%v: it is changed", c)
		}
		told := slices.Clone(other)
		for i := range all(one) {
			all(one)[i] = 0x22
		}
		if !bytes.Equal(other, told) {
			t.Errorf("%v: the same memory twice", c)
		}
		if third, e3 := conf.Bytes(given); !bytes.Equal(third, told) || e3 != e {
			t.Errorf("%v: then % X", c, third)
		}
	}
}

// scribble fills each list of a configuration, and its spare room.
func scribble(c api.Config) {
	for i := range c.Parts {
		for j := range all(c.Parts[i].Tasks) {
			all(c.Parts[i].Tasks)[j] = api.Task{Period: 99}
		}
	}
	for i := range all(c.Parts) {
		all(c.Parts)[i] = api.Part{Period: 99}
	}
	for i := range all(c.Ports) {
		all(c.Ports)[i] = api.Port{Kind: 99}
	}
}

// P5.3: bytes that are handed in are only read, their spare room too, and not kept; a configuration is new each time.
func TestParseIsNew(t *testing.T) {
	for _, c := range []api.Config{full(), simple(), counted(4, 4, 8)} {
		b := modelBytes(c)
		given := append(slices.Clone(b), bytes.Repeat([]byte{0xEE}, 40)...)
		was := slices.Clone(given)
		one, _ := conf.Parse(given[:len(b)])
		other, _ := conf.Parse(given[:len(b)])
		conf.Parse(given[:len(b)-1])
		conf.Parse(given)
		if !bytes.Equal(given, was) {
			t.Errorf("%v: bytes are changed", c)
		}
		for i := range given {
			given[i] = 1
		}
		if !same(one, c) {
			t.Errorf("%v: bytes are kept", c)
		}
		scribble(one)
		if !same(other, c) {
			t.Errorf("%v: the same memory twice", c)
		}
	}
}

// P5.3: no two lists of one answer share memory.
func TestListsApart(t *testing.T) {
	want := counted(4, 4, 8)
	c, _ := conf.Parse(modelBytes(want))
	for i := range c.Parts {
		for j := range all(c.Parts[i].Tasks) {
			all(c.Parts[i].Tasks)[j] = api.Task{Period: i}
		}
		c.Parts[i].Tasks = append(c.Parts[i].Tasks, api.Task{Period: i})
	}
	for i, p := range c.Parts {
		for _, task := range p.Tasks {
			if task.Period != i {
				t.Errorf("partition %d: a task of partition %d", i, task.Period)
			}
		}
	}
}

// pick is one of some numbers.
func pick(random *rand.Rand, l ...int) int {
	return l[random.Intn(len(l))]
}

// from is a number from low to high, often one of both.
func from(random *rand.Rand, low, high int) int {
	return pick(random, low, high, low+random.Intn(high-low+1))
}

// someTask is a task that may be, in a partition with that budget.
func someTask(random *rand.Rand, budget int) api.Task {
	t := api.Task{Period: from(random, 1, 64)}
	t.Deadline = from(random, 1, t.Period)
	t.Bound = from(random, 1, t.Deadline)
	if random.Intn(2) == 0 {
		t.Locals, t.Local = from(random, 1, 255), from(random, 1, t.Bound)
	}
	if random.Intn(2) == 0 {
		t.Global, t.Long = from(random, 1, 4), from(random, 1, min(budget, t.Bound))
		t.Locks = from(random, 1, t.Bound/t.Long)
	}
	return t
}

// some is a configuration that may be.
func some(random *rand.Rand) api.Config {
	var c api.Config
	for range from(random, 1, 4) {
		p := api.Part{Period: from(random, 1, 64)}
		p.Budget = from(random, 1, p.Period)
		for range from(random, 0, 4) {
			p.Tasks = append(p.Tasks, someTask(random, p.Budget))
		}
		c.Parts = append(c.Parts, p)
	}
	if len(c.Parts) == 1 {
		return c
	}
	for range from(random, 0, 8) {
		p := api.Port{Kind: from(random, 1, 2), From: random.Intn(len(c.Parts)), Size: from(random, 1, 16)}
		p.To = (p.From + 1 + random.Intn(len(c.Parts)-1)) % len(c.Parts)
		if p.Kind == api.PortSample {
			p.Age = from(random, 1, 64)
		} else {
			p.Depth = from(random, 1, 4)
		}
		c.Ports = append(c.Ports, p)
	}
	return c
}

// fields are all numbers of a configuration.
func fields(c *api.Config) []*int {
	var l []*int
	for i := range c.Parts {
		p := &c.Parts[i]
		l = append(l, &p.Period, &p.Budget)
		for j := range p.Tasks {
			t := &p.Tasks[j]
			l = append(l, &t.Period, &t.Deadline, &t.Bound, &t.Locals, &t.Local, &t.Global, &t.Long, &t.Locks)
		}
	}
	for i := range c.Ports {
		p := &c.Ports[i]
		l = append(l, &p.Kind, &p.From, &p.To, &p.Size, &p.Depth, &p.Age)
	}
	return l
}

// P5.1: configurations, one or two of whose numbers are others, against the chapter's words.
func TestCheckAgainstModel(t *testing.T) {
	random := rand.New(rand.NewSource(51))
	counts := map[api.Errno]int{}
	for range 30000 {
		c := some(random)
		l := fields(&c)
		for range random.Intn(3) {
			n := l[random.Intn(len(l))]
			*n = pick(random, *n-1, *n+1, 0, 1, 2, 64, 65, 255, 256, -1, random.Intn(70), math.MinInt, math.MaxInt, 1<<62)
		}
		want := modelCheck(c)
		counts[want]++
		wantCheck(t, fmt.Sprintf("%+v", c), c, want == api.OK)
		if t.Failed() {
			return
		}
	}
	if counts[api.OK] < 5000 || counts[api.ErrConf] < 5000 {
		t.Errorf("not enough of each: %v", counts)
	}
}

// P5.4: what has bytes is read of them as it was.
func TestReadAsItWas(t *testing.T) {
	random := rand.New(rand.NewSource(54))
	for range 5000 {
		c := some(random)
		b, e := conf.Bytes(c)
		if e != api.OK {
			t.Fatalf("Bytes(%+v): error %d", c, e)
		}
		wantParse(t, "its bytes", b, c)
	}
}

// spoil is bytes, some of which are others, or gone, or new.
func spoil(random *rand.Rand, b []byte) []byte {
	b = slices.Clone(b)
	for range 1 + random.Intn(2) {
		if len(b) == 0 {
			return b
		}
		at := random.Intn(len(b))
		x := byte(pick(random, 0, 1, 2, 3, 4, 5, 8, 9, 16, 17, 64, 65, 254, 255, random.Intn(256)))
		switch random.Intn(5) {
		case 0:
			b = slices.Delete(b, at, at+1)
		case 1:
			b = slices.Insert(b, at, x)
		case 2:
			b = slices.Concat(b[:at], raw(uint64(pick(random, 0, 1, 2, 1<<40, greatest-254, greatest-253))), b[at+1:])
		default:
			b[at] = x
		}
	}
	return b
}

// P5.2, P5.4: bytes, right and wrong, against the chapter's words; what can be read has just these bytes.
func TestParseAgainstModel(t *testing.T) {
	random := rand.New(rand.NewSource(52))
	counts := map[api.Errno]int{}
	for range 60000 {
		b := spoil(random, modelBytes(some(random)))
		want, e := modelParse(b)
		counts[e]++
		if e != api.OK {
			wantError(t, "spoilt bytes", b, e)
		} else {
			wantParse(t, "spoilt bytes", b, want)
			c, _ := conf.Parse(b)
			out, e := conf.Bytes(c)
			if e != api.OK || !bytes.Equal(out, b) {
				t.Errorf("Bytes of what was read of % X: % X, error %d", b, out, e)
			}
		}
		if t.Failed() {
			return
		}
	}
	for _, e := range []api.Errno{api.OK, api.ErrTrunc, api.ErrSyntax, api.ErrConf} {
		if counts[e] < 1000 {
			t.Errorf("not enough of each: %v", counts)
		}
	}
}

// P5.2, P5.4: all rows of some few bytes, against the chapter's words.
func TestParseShort(t *testing.T) {
	letters := []byte{0, 1, 2, 3, 4, 5, 8, 9, 64, 65, 255}
	var try func(b []byte, more int)
	try = func(b []byte, more int) {
		want, e := modelParse(b)
		if e != api.OK {
			wantError(t, "short bytes", b, e)
		} else {
			wantParse(t, "short bytes", b, want)
		}
		for _, x := range letters {
			if more > 0 && !t.Failed() {
				try(append(slices.Clone(b), x), more-1)
			}
		}
	}
	try(nil, 5)
}

// P5.5: bytes that are cut anywhere, or to which one is added, are no configuration's.
func TestCutAndAdded(t *testing.T) {
	random := rand.New(rand.NewSource(55))
	l := []api.Config{full(), simple(), counted(1, 0, 0), counted(4, 4, 8)}
	for range 200 {
		l = append(l, some(random))
	}
	for _, c := range l {
		b, _ := conf.Bytes(c)
		for end := range b {
			wantError(t, fmt.Sprintf("cut at %d", end), b[:end], api.ErrTrunc)
		}
		for x := range 256 {
			wantError(t, "one added", append(slices.Clone(b), byte(x)), api.ErrSyntax)
		}
	}
}

// R2: what is answered hangs on what is handed in alone: calls in between count for nothing.
func TestNothingKept(t *testing.T) {
	want := modelBytes(full())
	for _, between := range [][]byte{nil, {5}, {1, 2}, want, append(slices.Clone(want), 0)} {
		conf.Parse(between)
		conf.Check(api.Config{})
		conf.Bytes(simple())
		wantCheck(t, "full", full(), true)
		wantParse(t, "full", want, full())
	}
}
