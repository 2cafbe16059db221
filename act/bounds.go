package act

import "escapement/api"

// bound is what may be told of an act.
type bound struct {
	least, most int // its N
	bytes       int // so many its S has at most
}

// bounds is those of each kind that there is.
func bounds() map[int]bound {
	return map[int]bound{
		api.OpRun:    {1, api.MaxTime, 0},
		api.OpLock:   {0, api.MaxLocals - 1, 0},
		api.OpUnlock: {0, 0, 0},
		api.OpTake:   {0, 0, 0},
		api.OpGive:   {0, 0, 0},
		api.OpSend:   {0, api.MaxPorts - 1, api.MaxBytes},
		api.OpRecv:   {0, api.MaxPorts - 1, 0},
		api.OpLater:  {1, api.MaxTime, 0},
	}
}
