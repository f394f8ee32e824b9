package op

import "stockpot/api"

// row is what the table tells of an Op: its name, what A and B may be, how many words of the stack it takes, and leaves.
type row struct {
	name          string
	a, b          span
	takes, leaves int
}

// asB stands where an Op takes as many words as its B tells.
const asB = -1

// rows is the table, by Op; of OHost's rest each host has a row of its own.
var rows = [api.Ops]row{
	api.OInt:   {name: "int", a: number, takes: 0, leaves: 1},
	api.OStr:   {name: "str", a: strs, takes: 0, leaves: 1},
	api.OLocal: {name: "local", a: locals, takes: 0, leaves: 1},
	api.OSet:   {name: "set", a: locals, takes: 1, leaves: 0},
	api.OEnv:   {name: "env", a: captured, takes: 0, leaves: 1},
	api.OSelf:  {name: "self", takes: 0, leaves: 1},
	api.OClose: {name: "close", a: closed, b: captures, takes: asB, leaves: 1},
	api.OCall:  {name: "call", takes: 2, leaves: 1},
	api.OTail:  {name: "tail", takes: 2, leaves: 0},
	api.ORet:   {name: "ret", takes: 1, leaves: 0},
	api.OJump:  {name: "jump", a: places, takes: 0, leaves: 0},
	api.OJumpZ: {name: "jumpz", a: places, takes: 1, leaves: 0},
	api.OAdd:   {name: "add", takes: 2, leaves: 1},
	api.OSub:   {name: "sub", takes: 2, leaves: 1},
	api.OMul:   {name: "mul", takes: 2, leaves: 1},
	api.ODiv:   {name: "div", takes: 2, leaves: 1},
	api.OMod:   {name: "mod", takes: 2, leaves: 1},
	api.OEq:    {name: "eq", takes: 2, leaves: 1},
	api.OLess:  {name: "less", takes: 2, leaves: 1},
	api.OBlock: {name: "block", a: tags, b: sizes, takes: asB, leaves: 1},
	api.OField: {name: "field", a: fields, takes: 1, leaves: 1},
	api.OIsInt: {name: "isint", a: number, takes: 1, leaves: 1},
	api.OIsTag: {name: "istag", a: tags, takes: 1, leaves: 1},
	api.OStore: {name: "store", takes: 2, leaves: 1},
	api.OArray: {name: "array", takes: 2, leaves: 1},
	api.OGet:   {name: "get", takes: 2, leaves: 1},
	api.OPut:   {name: "put", takes: 3, leaves: 1},
	api.OLen:   {name: "len", takes: 1, leaves: 1},
	api.OCat:   {name: "cat", takes: 2, leaves: 1},
	api.OSize:  {name: "size", takes: 1, leaves: 1},
	api.OByte:  {name: "byte", takes: 2, leaves: 1},
	api.OText:  {name: "text", takes: 1, leaves: 1},
	api.OSame:  {name: "same", takes: 2, leaves: 1},
	api.OTry:   {name: "try", a: places, takes: 0, leaves: 0},
	api.OUntry: {name: "untry", takes: 0, leaves: 0},
	api.ORaise: {name: "raise", takes: 1, leaves: 0},
	api.OHost:  {name: "host", a: calls},
	api.OPop:   {name: "pop", takes: 1, leaves: 0},
}

// hosts is what the table tells of OHost by its A: what B may be, what it takes and leaves.
var hosts = [api.Hosts]row{
	api.HEmit: {takes: 1, leaves: 1},
	api.HLog:  {takes: 1, leaves: 1},
	api.HSend: {takes: 2, leaves: 1},
	api.HRecv: {b: forms, takes: 0, leaves: 1},
}
