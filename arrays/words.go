package arrays

// The Ops of trees for which package api has no name.
const (
	opRef  = "ref"
	opPart = "part"
	opDer  = "der"
	opSum  = "sum"
	opSize = "size"
	opList = "list"
)

// The kinds of statements, but for equal.
const (
	kindConnect = "connect"
	kindFor     = "for"
	kindIf      = "if"
	kindWhen    = "when"
	kindReinit  = "reinit"
)
