package ops

// codes is how many numbers there are from 0 to the highest code.
const codes = 200

// code is the name and the shape of a code, as the chapter's words have them.
type code struct {
	name  string
	shape byte
}

// codeOf tells of the code op, and answers the zero code where there is none.
func codeOf(op int) code {
	if op < 0 || op >= codes {
		return code{}
	}
	return [codes]code{
		0: {"nop", '-'}, 1: {"aconst_null", '-'},
		2: {"iconst_m1", '-'}, 3: {"iconst_0", '-'}, 4: {"iconst_1", '-'}, 5: {"iconst_2", '-'}, 6: {"iconst_3", '-'}, 7: {"iconst_4", '-'}, 8: {"iconst_5", '-'},
		9: {"lconst_0", '-'}, 10: {"lconst_1", '-'},
		16: {"bipush", 'b'}, 17: {"sipush", 's'}, 18: {"ldc", 'u'}, 20: {"ldc2_w", 'c'},
		21: {"iload", 'u'}, 22: {"lload", 'u'}, 25: {"aload", 'u'},
		26: {"iload_0", '-'}, 27: {"iload_1", '-'}, 28: {"iload_2", '-'}, 29: {"iload_3", '-'},
		30: {"lload_0", '-'}, 31: {"lload_1", '-'}, 32: {"lload_2", '-'}, 33: {"lload_3", '-'},
		42: {"aload_0", '-'}, 43: {"aload_1", '-'}, 44: {"aload_2", '-'}, 45: {"aload_3", '-'},
		46: {"iaload", '-'}, 47: {"laload", '-'}, 50: {"aaload", '-'},
		54: {"istore", 'u'}, 55: {"lstore", 'u'}, 58: {"astore", 'u'},
		59: {"istore_0", '-'}, 60: {"istore_1", '-'}, 61: {"istore_2", '-'}, 62: {"istore_3", '-'},
		63: {"lstore_0", '-'}, 64: {"lstore_1", '-'}, 65: {"lstore_2", '-'}, 66: {"lstore_3", '-'},
		75: {"astore_0", '-'}, 76: {"astore_1", '-'}, 77: {"astore_2", '-'}, 78: {"astore_3", '-'},
		79: {"iastore", '-'}, 80: {"lastore", '-'}, 83: {"aastore", '-'},
		87: {"pop", '-'}, 89: {"dup", '-'}, 90: {"dup_x1", '-'}, 95: {"swap", '-'},
		96: {"iadd", '-'}, 97: {"ladd", '-'}, 100: {"isub", '-'}, 101: {"lsub", '-'}, 104: {"imul", '-'}, 105: {"lmul", '-'},
		108: {"idiv", '-'}, 109: {"ldiv", '-'}, 112: {"irem", '-'}, 113: {"lrem", '-'}, 116: {"ineg", '-'}, 117: {"lneg", '-'},
		120: {"ishl", '-'}, 121: {"lshl", '-'}, 122: {"ishr", '-'}, 123: {"lshr", '-'}, 124: {"iushr", '-'}, 125: {"lushr", '-'},
		126: {"iand", '-'}, 127: {"land", '-'}, 128: {"ior", '-'}, 129: {"lor", '-'}, 130: {"ixor", '-'}, 131: {"lxor", '-'},
		132: {"iinc", 'i'}, 133: {"i2l", '-'}, 136: {"l2i", '-'}, 148: {"lcmp", '-'},
		153: {"ifeq", 't'}, 154: {"ifne", 't'}, 155: {"iflt", 't'}, 156: {"ifge", 't'}, 157: {"ifgt", 't'}, 158: {"ifle", 't'},
		159: {"if_icmpeq", 't'}, 160: {"if_icmpne", 't'}, 161: {"if_icmplt", 't'}, 162: {"if_icmpge", 't'}, 163: {"if_icmpgt", 't'}, 164: {"if_icmple", 't'},
		165: {"if_acmpeq", 't'}, 166: {"if_acmpne", 't'}, 167: {"goto", 't'},
		172: {"ireturn", '-'}, 173: {"lreturn", '-'}, 176: {"areturn", '-'}, 177: {"return", '-'},
		178: {"getstatic", 'c'}, 179: {"putstatic", 'c'}, 180: {"getfield", 'c'}, 181: {"putfield", 'c'},
		182: {"invokevirtual", 'c'}, 183: {"invokespecial", 'c'}, 184: {"invokestatic", 'c'},
		187: {"new", 'c'}, 188: {"newarray", 'u'}, 189: {"anewarray", 'c'}, 190: {"arraylength", '-'},
		191: {"athrow", '-'}, 192: {"checkcast", 'c'}, 193: {"instanceof", 'c'},
		194: {"monitorenter", '-'}, 195: {"monitorexit", '-'},
		198: {"ifnull", 't'}, 199: {"ifnonnull", 't'},
	}[op]
}
