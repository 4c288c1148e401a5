// Package symbols: what the layers share of a grammar's symbols.
package symbols

// NoName is the Name of a symbol that is a range of bytes.
const NoName = -1
