package words

import "furrow/api"

// namesOf is the short and the long name of c; nothing of what is no class.
func namesOf(c api.Class) (short, long string) {
	switch c {
	case api.L:
		return "L", "Left_To_Right"
	case api.R:
		return "R", "Right_To_Left"
	case api.AL:
		return "AL", "Arabic_Letter"
	case api.EN:
		return "EN", "European_Number"
	case api.ES:
		return "ES", "European_Separator"
	case api.ET:
		return "ET", "European_Terminator"
	case api.AN:
		return "AN", "Arabic_Number"
	case api.CS:
		return "CS", "Common_Separator"
	case api.NSM:
		return "NSM", "Nonspacing_Mark"
	case api.BN:
		return "BN", "Boundary_Neutral"
	case api.B:
		return "B", "Paragraph_Separator"
	case api.S:
		return "S", "Segment_Separator"
	case api.WS:
		return "WS", "White_Space"
	case api.ON:
		return "ON", "Other_Neutral"
	case api.LRE:
		return "LRE", "Left_To_Right_Embedding"
	case api.LRO:
		return "LRO", "Left_To_Right_Override"
	case api.RLE:
		return "RLE", "Right_To_Left_Embedding"
	case api.RLO:
		return "RLO", "Right_To_Left_Override"
	case api.PDF:
		return "PDF", "Pop_Directional_Format"
	case api.LRI:
		return "LRI", "Left_To_Right_Isolate"
	case api.RLI:
		return "RLI", "Right_To_Left_Isolate"
	case api.FSI:
		return "FSI", "First_Strong_Isolate"
	case api.PDI:
		return "PDI", "Pop_Directional_Isolate"
	}
	return "", ""
}

// classOf is the class that has a name of that loose form, 0 if none has. The forms are written out, though namesOf would lead to them: files name classes by the million.
func classOf(loose string) api.Class {
	switch loose {
	case "l", "lefttoright":
		return api.L
	case "r", "righttoleft":
		return api.R
	case "al", "arabicletter":
		return api.AL
	case "en", "europeannumber":
		return api.EN
	case "es", "europeanseparator":
		return api.ES
	case "et", "europeanterminator":
		return api.ET
	case "an", "arabicnumber":
		return api.AN
	case "cs", "commonseparator":
		return api.CS
	case "nsm", "nonspacingmark":
		return api.NSM
	case "bn", "boundaryneutral":
		return api.BN
	case "b", "paragraphseparator":
		return api.B
	case "s", "segmentseparator":
		return api.S
	case "ws", "whitespace":
		return api.WS
	case "on", "otherneutral":
		return api.ON
	case "lre", "lefttorightembedding":
		return api.LRE
	case "lro", "lefttorightoverride":
		return api.LRO
	case "rle", "righttoleftembedding":
		return api.RLE
	case "rlo", "righttoleftoverride":
		return api.RLO
	case "pdf", "popdirectionalformat":
		return api.PDF
	case "lri", "lefttorightisolate":
		return api.LRI
	case "rli", "righttoleftisolate":
		return api.RLI
	case "fsi", "firststrongisolate":
		return api.FSI
	case "pdi", "popdirectionalisolate":
		return api.PDI
	}
	return 0
}
