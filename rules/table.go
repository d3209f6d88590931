package rules

import (
	"slices"

	"understudy/api"
)

// simple are the rules of what only pushes, and of what turns the stack about.
func (s *step) simple(name string) bool {
	switch name {
	case "nop":
	case "aconst_null":
		s.push(null)
	case "ldc":
		s.constant(api.CInt)
		fallthrough
	case "sipush":
		s.push(number)
	case "ldc2_w":
		s.constant(api.CLong)
		fallthrough
	case "lconst_0":
		s.push(long)
	case "pop":
		s.take()
	case "dup":
		a := s.take()
		s.push(a)
		s.push(a)
	case "dup_x1":
		b, a := s.take(), s.take()
		s.push(b)
		s.push(a)
		s.push(b)
	case "swap":
		b, a := s.take(), s.take()
		s.push(b)
		s.push(a)
	default:
		return false
	}
	return true
}

// locals are the rules of what asks for a local.
func (s *step) locals(name string) bool {
	switch name {
	case "iload":
		s.push(s.localThat(ofKind(api.KInt)))
	case "lload":
		s.push(s.localThat(ofKind(api.KLong)))
	case "aload":
		s.push(s.localThat(isReference))
	case "istore":
		s.pop(number)
		s.store(number)
	case "lstore":
		s.pop(long)
		s.store(long)
	case "astore":
		s.store(s.takeThat(isReference))
	case "iinc":
		s.localThat(ofKind(api.KInt))
	default:
		return false
	}
	return true
}

// arrays are the rules of what makes arrays, and of what asks them.
func (s *step) arrays(name string) bool {
	switch name {
	case "iaload":
		s.pop(number)
		s.popPush(numbers, number)
	case "laload":
		s.pop(number)
		s.popPush(longs, long)
	case "aaload":
		s.pop(number)
		s.push(held(s.take()))
	case "iastore":
		s.pop(number)
		s.pop(number)
		s.pop(numbers)
	case "lastore":
		s.pop(long)
		s.pop(number)
		s.pop(longs)
	case "aastore":
		s.takeThat(isBegun)
		s.pop(number)
		held(s.take())
	case "newarray":
		s.popPush(number, s.arrayAsked())
	case "anewarray":
		t := arrayOf(s.typeNamed())
		s.pop(number)
		must(t.Dims <= api.MaxDims)
		s.push(t)
	case "arraylength":
		s.takeThat(isArray)
		s.push(number)
	default:
		return false
	}
	return true
}

// arrayAsked answers the type of the array of numbers that is asked.
func (s *step) arrayAsked() api.Type {
	switch s.i.A {
	case 10:
		return numbers
	case 11:
		return longs
	}
	refuse(api.ErrType)
	return api.Type{}
}

// arithmetic are the rules of what makes numbers of numbers.
func (s *step) arithmetic(name string) bool {
	switch name {
	case "iadd", "isub", "imul", "idiv", "irem", "ishl", "ishr", "iushr", "iand", "ior", "ixor":
		s.pop(number)
		fallthrough
	case "ineg":
		s.popPush(number, number)
	case "lshl", "lshr", "lushr":
		s.pop(number)
		s.popPush(long, long)
	case "ladd", "lsub", "lmul", "ldiv", "lrem", "land", "lor", "lxor":
		s.pop(long)
		fallthrough
	case "lneg":
		s.popPush(long, long)
	case "lcmp":
		s.pop(long)
		fallthrough
	case "l2i":
		s.popPush(long, number)
	case "i2l":
		s.popPush(number, long)
	default:
		return false
	}
	return true
}

// leads are the rules of what leads elsewhere, maybe.
func (s *step) leads(name string) bool {
	switch name {
	case "if_icmpeq", "if_icmpne", "if_icmplt", "if_icmpge", "if_icmpgt", "if_icmple":
		s.pop(number)
		fallthrough
	case "ifeq", "ifne", "iflt", "ifge", "ifgt", "ifle":
		s.pop(number)
	case "if_acmpeq", "if_acmpne":
		s.takeThat(isBegun)
		fallthrough
	case "ifnull", "ifnonnull":
		s.takeThat(isBegun)
	case "goto":
	default:
		return false
	}
	return true
}

// returns are the rules of what leaves the method.
func (s *step) returns(name string) bool {
	switch name {
	case "ireturn":
		must(s.answers.K == api.KInt)
		s.pop(s.answers)
	case "lreturn":
		must(s.answers.K == api.KLong)
		s.pop(s.answers)
	case "areturn":
		must(isBegun(s.answers)) // no method answers null alone
		s.pop(s.answers)
	case "return":
		must(s.answers.K == api.KVoid && !s.f.Fresh)
	case "athrow":
		s.pop(classType(throwable))
	default:
		return false
	}
	return true
}

// members are the rules of what asks for fields and methods.
func (s *step) members(name string) bool {
	switch name {
	case "getstatic":
		s.push(s.field(true).value)
	case "putstatic":
		s.pop(s.field(true).value)
	case "getfield":
		m := s.field(false)
		s.popPush(m.class, m.value)
	case "putfield":
		m := s.field(false)
		s.pop(m.value)
		s.pop(m.class)
	case "invokestatic":
		m := s.method(true)
		s.popTaken(m)
		s.pushAnswer(m)
	case "invokevirtual":
		m := s.method(false)
		s.popTaken(m)
		s.pop(m.class)
		s.pushAnswer(m)
	case "invokespecial":
		m := s.constructor()
		s.popTaken(m)
		s.beginBy(m.class)
	default:
		return false
	}
	return true
}

// pushAnswer lays on the stack what the method m answers, if it is something.
func (s *step) pushAnswer(m member) {
	if m.value.K != api.KVoid {
		s.push(m.value)
	}
}

// beginBy takes the last type from the stack, which must be of what a constructor of the class may begin. It is begun wherever it stands.
func (s *step) beginBy(class api.Type) {
	t := s.take()
	switch t.K {
	case api.KNew:
		must(s.newNames(t.At) == class.Name)
		s.become(isMadeAt(t.At), class)
	case api.KThis:
		must(s.beginsThis(class.Name))
		s.become(ofKind(api.KThis), s.this(false))
		s.f.Fresh = false
	default:
		refuse(api.ErrType)
	}
}

// objects are the rules of what makes objects, asks for their classes, and for their monitors.
func (s *step) objects(name string) bool {
	switch name {
	case "new":
		t := s.typeNamed()
		mustBeThere(t.K == api.KRef)
		must(t.Name != system)
		isSame := isMadeAt(s.i.At) // what the same new made earlier: no two of these may be taken for one another
		must(!slices.ContainsFunc(s.f.Stack, isSame))
		s.become(isSame, api.Type{K: api.KTop})
		s.push(api.Type{K: api.KNew, At: s.i.At})
	case "checkcast":
		t := s.typeNamed()
		s.takeThat(isBegun)
		s.push(t)
	case "instanceof":
		s.typeNamed()
		s.takeThat(isBegun)
		s.push(number)
	case "monitorenter", "monitorexit":
		s.takeThat(isBegun)
	default:
		return false
	}
	return true
}
