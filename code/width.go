package code

import "stockpot/api"

// aWidths is how many bytes A takes in an instruction of each Op; an Op that is not named has an A of 0 alone, which takes none.
var aWidths = [api.Ops]uint8{
	api.OInt:   8,
	api.OStr:   2,
	api.OLocal: 2,
	api.OSet:   2,
	api.OEnv:   2,
	api.OClose: 2,
	api.OJump:  2,
	api.OJumpZ: 2,
	api.OBlock: 2,
	api.OField: 2,
	api.OIsInt: 8,
	api.OIsTag: 2,
	api.OTry:   2,
	api.OHost:  2,
}

// bWidths is how many bytes B takes in an instruction of each Op, in the same way.
var bWidths = [api.Ops]uint8{
	api.OClose: 1,
	api.OBlock: 1,
	api.OHost:  1,
}
