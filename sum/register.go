package sum

// register is gone through by bytes, and has their sum in the end.
type register struct{ cells }

// begun is a register that no byte has gone through.
func begun() register { return register{cells: 1<<32 - 1} }

// behind is the register once rows have gone through it, one behind the other.
func (r register) behind(rows ...[]byte) register {
	for _, row := range rows {
		for _, b := range row {
			r.cells = r.after(b)
		}
	}
	return r
}

// cells are the 32 bits of a register.
type cells uint32

// turns are the bits that are turned while four go down, by what those four are. Going down by four places at once takes a quarter of the steps.
var turns = [16]cells{
	0x00000000, 0x1DB71064, 0x3B6E20C8, 0x26D930AC, 0x76DC4190, 0x6B6B51F4, 0x4DB26158, 0x5005713C,
	0xEDB88320, 0xF00F9344, 0xD6D6A3E8, 0xCB61B38C, 0x9B64C2B0, 0x86D3D2D4, 0xA00AE278, 0xBDBDF21C,
}

// after are the bits once a byte has gone through. The byte's bits may meet all of the lowest eight ahead of going down: what is turned meanwhile is turned beside them.
func (c cells) after(b byte) cells { return (c ^ cells(b)).down().down() }

// down are the bits four places further down.
func (c cells) down() cells { return c>>4 ^ turns[c&15] }

// turned are the bits, each of them turned.
func (c cells) turned() uint32 { return uint32(^c) }
