/- The program reads the parts of a class file: numbers, counts, bytes, texts. No condition beyond a reader that was made. The program reads a place that must lead to a text; owned rows of structs. No condition beyond a reader that was made. -/
import Derived.Test.YtodhdiccfobcfaaGreatDoorGClsP
import Derived.Test.YtodhdiccfobcfaaGreatDoorGClsG
import Derived.Test.YtodhdiccfobcfaaGreatDoorGPolD
import Derived.Deep.RegionHeld3
namespace Go.Proofs.YtodhdiccfobcfaaGreatDoor
open Go.RowKit
set_option linter.unusedVariables false
set_option linter.unusedSimpArgs false

/-- What a reading leaves: its value and the place behind it, or a refusal. -/
def RdE {α : Type} (V : α → Value) (rb : Nat) (sv : Value) (zs : List Int) (w : World) (r : Except Int (α × Nat)) (e : Ending) (w' : World) : Prop :=
  ((∃ a k, r = .ok (a, k) ∧ e = .returned (V a) ∧ Rd w' rb sv zs k) ∨ (∃ x, r = .error x ∧ e = pan x)) ∧ Only (fun j => j = rb) w w'
theorem RdE.ok {α : Type} {V : α → Value} {rb : Nat} {sv : Value} {zs : List Int} {w w' : World} {r : Except Int (α × Nat)} {a : α} {k : Nat} (h : r = .ok (a, k)) (hr : Rd w' rb sv zs k) (ho : Only (fun j => j = rb) w w') : RdE V rb sv zs w r (.returned (V a)) w' := ⟨.inl ⟨a, k, h, rfl, hr⟩, ho⟩
theorem RdE.no {α : Type} {V : α → Value} {rb : Nat} {sv : Value} {zs : List Int} {w w' : World} {r : Except Int (α × Nat)} {x : Int} (h : r = .error x) (ho : Only (fun j => j = rb) w w') : RdE V rb sv zs w r (pan x) w' := ⟨.inr ⟨x, h, rfl⟩, ho⟩
abbrev unitV : Unit → Value := fun _ => .tuple #[]
theorem Only.rb {w1 w2 : World} {rb : Nat} (h : Only (fun _ => False) w1 w2) : Only (fun j => j = rb) w1 w2 := h.mono (fun _ h _ => h.elim)
theorem Only.rbs {w0 w1 w2 : World} {rb : Nat} (h : Only (fun j => j = rb) w0 w1) (h2 : Only (fun j => j = rb) w1 w2) : Only (fun j => j = rb) w0 w2 := h.trans h2 (fun _ h _ => h)

section
variable (b rb : Nat) (sv : Value) (zs : List Int) (k : Nat) (w : World)
theorem readNumber (n : Nat) (hn1 : 1 ≤ n) (hn8 : n ≤ 8) (h : Rd w rb sv zs k) (q : w.cell? ⟨b, 0, none⟩ = some (.pointer (some ⟨rb, 0, none⟩))) :
    Calls Tryz.prog 92 #[.pointer (some ⟨b, 0, none⟩), .int .i64 n] w (RdE (fun x => .int .u64 x) rb sv zs w (numP n zs k)) := by
  by_cases hroom : k + n ≤ zs.length
  · have he : numP n zs k = .ok (uAt zs k n, k + n) := by unfold numP; rw [if_pos hroom]
    have cU := pdU_ok rb sv zs k n w h hn1 hn8 hroom
    have CU := Lib.hid cU
    have HE := Lib.hid he
    clear cU h he
    go_enter Tryz.func92, Tryz.ntmps92
    go_wp2_with (first | (go_at_call 114; refine CU.out.mono ?_; rintro e w' ⟨rfl, hto⟩; have HTO := Lib.hid hto; clear hto) | (go_at_call 67; refine (refuse0 _).mono ?_; rintro e w2 ⟨rfl, rfl⟩))
    go_ret
    exact RdE.ok (V := fun x => .int .u64 x) HE.out HTO.out.1 HTO.out.2
  · have he : numP n zs k = .error 3 := by unfold numP; rw [if_neg hroom]
    have cU := pdU_short rb sv zs k n w h hn1 hn8 (by omega)
    have CU := Lib.hid cU
    have HE := Lib.hid he
    clear cU h he
    go_enter Tryz.func92, Tryz.ntmps92
    go_wp2_with (first | (go_at_call 114; refine CU.out.mono ?_; rintro e w' ⟨rfl, hto⟩; have HTO := Lib.hid hto; clear hto) | (go_at_call 67; refine (refuseN 3 (by decide) _).mono ?_; rintro e w2 ⟨rfl, rfl⟩))
    exact ⟨rfl, RdE.no HE.out HTO.out.2⟩
theorem numP_val {n : Nat} {x : Int} {k' : Nat} (hz : Bytish zs) (h : numP n zs k = .ok (x, k')) : 0 ≤ x ∧ x < 256 ^ n := by
  unfold numP at h
  split at h
  · rename_i hr
    injection h with h
    injection h with h1 h2
    subst h1
    exact uAt_fits hz k n hr
  · cases h
theorem readShort (h : Rd w rb sv zs k) (q : w.cell? ⟨b, 0, none⟩ = some (.pointer (some ⟨rb, 0, none⟩))) :
    Calls Tryz.prog 89 #[.pointer (some ⟨b, 0, none⟩)] w (RdE (fun x => .int .i64 x) rb sv zs w (numP 2 zs k)) := by
  have hz := h.byt
  have cU := readNumber b rb sv zs k w 2 (by decide) (by decide) h q
  have CU := Lib.hid cU
  have HZ := Lib.hid hz
  clear cU h q hz
  go_enter Tryz.func89, Tryz.ntmps89
  go_wp2_with (fail)
  refine CU.out.mono ?_
  rintro e w' ⟨⟨x, k', hx, rfl, hr⟩ | ⟨x, hx, rfl⟩, ho⟩
  · have hv := numP_val zs k HZ.out hx
    simp only [Int.reducePow] at hv
    have hw : IntKind.i64.wrap x = x := IntWalk.i64_in _ (by omega)
    have HX := Lib.hid hx
    have HR := Lib.hid hr
    have HO := Lib.hid ho
    clear hx hr ho hv
    go_wp2
    go_ret
    exact RdE.ok (V := fun x => .int .i64 x) HX.out HR.out HO.out
  · exact ⟨rfl, RdE.no hx ho⟩
theorem readFixed (n : Nat) (hn1 : 1 ≤ n) (hn8 : n ≤ 8) (want : Int) (h : Rd w rb sv zs k) (q : w.cell? ⟨b, 0, none⟩ = some (.pointer (some ⟨rb, 0, none⟩))) :
    Calls Tryz.prog 85 #[.pointer (some ⟨b, 0, none⟩), .int .i64 n, .int .u64 want] w (RdE unitV rb sv zs w (fixedP n want zs k)) := by
  have cU := readNumber b rb sv zs k w n hn1 hn8 h q
  have CU := Lib.hid cU
  clear cU h q
  go_enter Tryz.func85, Tryz.ntmps85
  go_wp2_with (fail)
  refine CU.out.mono ?_
  rintro e w' ⟨⟨x, k', hx, rfl, hr⟩ | ⟨x, hx, rfl⟩, ho⟩
  · have HR := Lib.hid hr
    have HO := Lib.hid ho
    by_cases hw : x = want
    · have HX := Lib.hid (show fixedP n want zs k = .ok ((), k') from (bindP_ok hx).trans (by unfold mustP; rw [if_pos (by simp [hw])]))
      clear hx hr ho
      subst hw
      go_wp2_with (go_at_call 70; refine (mustT _).mono ?_; rintro e w2 ⟨rfl, rfl⟩)
      go_end0
      exact RdE.ok (V := unitV) HX.out HR.out HO.out
    · have HX := Lib.hid (show fixedP n want zs k = .error 50 from (bindP_ok hx).trans (by unfold mustP; rw [if_neg (by simp [hw])]))
      have hb : (x == want) = false := by simpa using hw
      clear hx hr ho hw
      go_wp2_with (go_at_call 70; refine (mustF _).mono ?_; rintro e w2 ⟨rfl, rfl⟩)
      exact ⟨rfl, RdE.no HX.out HO.out⟩
  · exact ⟨rfl, RdE.no (bindP_error hx) ho⟩
theorem readCount (n : Nat) (hn : n = 2 ∨ n = 4) (most : Nat) (hm : most ≤ 4096) (h : Rd w rb sv zs k) (q : w.cell? ⟨b, 0, none⟩ = some (.pointer (some ⟨rb, 0, none⟩))) :
    Calls Tryz.prog 113 #[.pointer (some ⟨b, 0, none⟩), .int .i64 n, .int .i64 most] w (RdE (fun x => .int .i64 x) rb sv zs w (countP n most zs k)) := by
  have hz := h.byt
  have cU := readNumber b rb sv zs k w n (by omega) (by omega) h q
  have hmu : IntKind.u64.wrap (most : Int) = (most : Int) := by rw [wrapU]; omega
  have CU := Lib.hid cU
  have HZ := Lib.hid hz
  clear cU h q hz
  go_enter Tryz.func113, Tryz.ntmps113
  go_wp2_with (fail)
  refine CU.out.mono ?_
  rintro e w' ⟨⟨x, k', hx, rfl, hr⟩ | ⟨x, hx, rfl⟩, ho⟩
  · have hv := numP_val zs k HZ.out hx
    have hv1 : x < 4294967296 := by rcases hn with rfl | rfl <;> simp only [Int.reducePow] at hv <;> omega
    have HR := Lib.hid hr
    have HO := Lib.hid ho
    by_cases hw : (most : Int) < x
    · have HX := Lib.hid (show countP n most zs k = .error 2 from (bindP_ok hx).trans (by rw [if_pos hw]; rfl))
      clear hx hr ho hv
      go_wp2_with (go_at_call 67; refine (refuseN 2 (by decide) _).mono ?_; rintro e w2 ⟨rfl, rfl⟩)
      exact ⟨rfl, RdE.no HX.out HO.out⟩
    · have HX := Lib.hid (show countP n most zs k = .ok (x, k') from (bindP_ok hx).trans (by rw [if_neg hw]; rfl))
      have hwi : IntKind.i64.wrap x = x := IntWalk.i64_in _ (by omega)
      have hwn : x ≤ (most : Int) := by omega
      clear hx hr ho hv hw
      go_wp2
      go_ret
      exact RdE.ok (V := fun x => .int .i64 x) HX.out HR.out HO.out
  · exact ⟨rfl, RdE.no (bindP_error hx) ho⟩
theorem readMembers (h : Rd w rb sv zs k) (q : w.cell? ⟨b, 0, none⟩ = some (.pointer (some ⟨rb, 0, none⟩))) :
    Calls Tryz.prog 90 #[.pointer (some ⟨b, 0, none⟩)] w (RdE (fun x => .int .i64 x) rb sv zs w (countP 2 64 zs k)) := by
  have cU := readCount b rb sv zs k w 2 (.inl rfl) 64 (by decide) h q
  have CU := Lib.hid cU
  clear cU h q
  go_enter Tryz.func90, Tryz.ntmps90
  go_wp2_with (fail)
  refine CU.out.mono ?_
  rintro e w' ⟨⟨x, k', hx, rfl, hr⟩ | ⟨x, hx, rfl⟩, ho⟩
  · have HX := Lib.hid hx
    have HR := Lib.hid hr
    have HO := Lib.hid ho
    clear hx hr ho
    go_wp2
    go_ret
    exact RdE.ok (V := fun x => .int .i64 x) HX.out HR.out HO.out
  · exact ⟨rfl, RdE.no hx ho⟩
/-- What reading bytes leaves: the bytes in new memory. -/
def RdL (rb : Nat) (sv : Value) (zs : List Int) (w : World) (r : Except Int (List Int × Nat)) (e : Ending) (w' : World) : Prop :=
  ((∃ ys k v, r = .ok (ys, k) ∧ e = .returned v ∧ Rd w' rb sv zs k ∧ Row w' w.heap.size v ys ∧ Bytish ys) ∨ (∃ x, r = .error x ∧ e = pan x)) ∧ Only (fun j => j = rb) w w'
theorem readList (n : Nat) (hn : n ≤ 1048576) (h : Rd w rb sv zs k) (q : w.cell? ⟨b, 0, none⟩ = some (.pointer (some ⟨rb, 0, none⟩))) :
    Calls Tryz.prog 88 #[.pointer (some ⟨b, 0, none⟩), .int .i64 n] w (RdL rb sv zs w (bytesP n zs k)) := by
  have hz := h.byt
  have c := rdBytes rb sv zs k n w h (by omega) (by omega)
  by_cases hroom : k + n ≤ zs.length
  · have he : bytesP n zs k = .ok ((zs.drop k).take n, k + n) := by unfold bytesP; rw [if_pos hroom]
    have he0 : rdErr1 n ((zs.length : Int) - k) = 0 := by unfold rdErr1; rw [if_neg (by omega), if_neg (by omega)]
    rw [he0] at c
    simp only [rdPart, rdK, if_true, Int.toNat_natCast] at c
    have hby : Bytish ((zs.drop k).take n) := (hz.drop k).take n
    obtain ⟨ys, hys⟩ : ∃ ys, (zs.drop k).take n = ys := ⟨_, rfl⟩
    rw [hys] at c he hby
    have CU := Lib.hid c
    have HE := Lib.hid he
    have HBY := Lib.hid hby
    clear c h he hby hz hys he0
    go_enter Tryz.func88, Tryz.ntmps88
    go_wp2_with (fail)
    refine CU.out.mono ?_
    rintro e w1 ⟨v, rfl, hto, hrow⟩
    obtain ⟨av, cv, rfl, _, _⟩ := slice_of_owns hrow
    have HTO := Lib.hid hto
    have HROW := Lib.hid hrow
    clear hto hrow CU
    go_wp2_with (go_at_call 67; refine (refuse0 _).mono ?_; rintro e w2 ⟨rfl, rfl⟩)
    go_ret
    exact ⟨.inl ⟨ys, k + n, _, HE.out, rfl, HTO.out.1, HROW.out, HBY.out⟩, HTO.out.2⟩
  · have he : bytesP n zs k = .error 3 := by unfold bytesP; rw [if_neg hroom]
    have he3 : rdErr1 n ((zs.length : Int) - k) = 3 := by unfold rdErr1; rw [if_neg (by omega), if_pos (by omega)]
    rw [he3] at c
    simp only [rdPart, rdK, show ¬ ((3 : Int) = 0) by decide, if_false] at c
    have CU := Lib.hid c
    have HE := Lib.hid he
    clear c h he hz he3
    go_enter Tryz.func88, Tryz.ntmps88
    go_wp2_with (fail)
    refine CU.out.mono ?_
    rintro e w1 ⟨v, rfl, hto, hrow⟩
    obtain ⟨av, cv, rfl, _, _⟩ := slice_of_owns hrow
    have HTO := Lib.hid hto
    clear hto hrow CU
    go_wp2_with (go_at_call 67; refine (refuseN 3 (by decide) _).mono ?_; rintro e w2 ⟨rfl, rfl⟩)
    exact ⟨rfl, .inr ⟨3, HE.out, rfl⟩, HTO.out.2⟩
end
end Go.Proofs.YtodhdiccfobcfaaGreatDoor
namespace Go.Proofs.YtodhdiccfobcfaaGreatDoor
open Go.RowKit
set_option linter.unusedVariables false
set_option linter.unusedSimpArgs false

/-- An owned row of structs of n cells. -/
def RowG {α : Type} (T : TypeId) (n : Nat) (cells : α → List Value) (w : World) (B : Nat) (v : Value) (l : List α) : Prop := w.ownsRow B T n v l.length (l.flatMap cells)
section
variable {α : Type} {T : TypeId} {n : Nat} {cells : α → List Value}
theorem cellsG_at [Inhabited α] (hn : ∀ a, (cells a).length = n) : ∀ {l : List α} {i d : Nat}, i < l.length → d < n → (l.flatMap cells)[i * n + d]? = (cells (l.getD i default))[d]?
  | c :: r, 0, d, _, hd => by
    rw [List.flatMap_cons, List.getElem?_append_left (by rw [hn]; omega)]
    simp
  | c :: r, i + 1, d, hi, hd => by
    have he : (i + 1) * n + d = n + (i * n + d) := by rw [Nat.succ_mul]; omega
    rw [List.flatMap_cons, List.getElem?_append_right (by rw [hn]; omega), hn, he, Nat.add_sub_cancel_left, cellsG_at hn (by simpa using hi) hd]
    simp
theorem RowG.sl [Inhabited α] {w : World} {B : Nat} {v : Value} {l : List α} (hn : ∀ a, (cells a).length = n) (h : RowG T n cells w B v l) : Sl v l.length (fun b o i => ∀ d, d < n → w.cell? ⟨b, o + i * n + d, none⟩ = (cells (l.getD i default))[d]?) := by
  rcases h.2 with ⟨rfl, h0⟩ | ⟨g, cap, cur, rfl, hb, hg, hnc, hcm, hcs, htake⟩
  · rw [h0]; exact Sl.nil _
  · refine ⟨_, cap, rfl, hnc, by unfold maxLen at hcm; omega, (fun e => by cases e), fun x hx _ => ?_⟩
    cases hx
    refine ⟨g, 0, rfl, fun i hi d hd => ?_⟩
    rw [Nat.zero_add, ← cellsG_at hn hi hd]
    refine (show w.ownsRow B _ n _ _ _ from h).cellAt (g := g) (cap := cap) (i * n + d) ?_
    have : i * n + n ≤ l.length * n := by rw [← Nat.succ_mul]; exact Nat.mul_le_mul_right n hi
    omega
theorem RowG.only {S : Nat → Prop} {w w' : World} {B : Nat} {v : Value} {l : List α} (h : RowG T n cells w B v l) (ho : Only S w w') (hs : ∀ k, v.ownBlock = some k → ¬ S k) : RowG T n cells w' B v l := ho.owns h hs
theorem RowG.ge {w : World} {B : Nat} {v : Value} {l : List α} (h : RowG T n cells w B v l) : ∀ k, v.ownBlock = some k → B ≤ k ∧ k < w.heap.size := fun k hk => World.ownsRow.lt h k hk
theorem RowG.nil (w : World) (B : Nat) : RowG T n cells w B (.slice none 0 0) [] := World.ownsRow_nil _ _ _ _
theorem RowG.more {w : World} {B : Nat} {v' : Value} {l : List α} {a : α} (hown : w.ownsRow B T n v' (l.length + 1) (l.flatMap cells ++ cells a)) : RowG T n cells w B v' (l ++ [a]) := by
  unfold RowG
  rw [List.length_append, List.flatMap_append]
  simpa using hown
/-- A new row of one struct, as what is appended. -/
theorem Src.struct {w : World} {m : Nat} (xs : List Value) (hn : xs.length = n) (hu : ∀ u ∈ xs, u.oneCell' = true) (h : w.heap.size = m) : Src (w.alloc (.cells xs.toArray T)) n (.slice (some ⟨m, 0, none⟩) 1 1) 1 xs := by
  subst h
  refine ⟨by omega, hu, _, 1, rfl, (fun e => by cases e), fun ad hd j u hj => ?_⟩
  cases hd
  rw [add_lit, Nat.zero_add, cell_blk (heap_alloc_new w _)]
  simpa using hj
end
def cellsT (t : TrapV) : List Value := [.int .i64 t.from_, .int .i64 t.to_, .int .i64 t.hand, .int .i64 t.type]
def cellsF (f : FieldV) : List Value := [.int .i64 f.flags, .int .i64 f.name, .int .i64 f.desc]
def cellsM (x : MethodV × Value × Value × Value) : List Value := [.int .i64 x.1.flags, .int .i64 x.1.name, .int .i64 x.1.desc, .int .i64 x.1.stack, .int .i64 x.1.locals, x.2.1, x.2.2.1, x.2.2.2]
theorem RowG.traps {w : World} {B : Nat} {v : Value} {l : List TrapV} (h : RowG 88 4 cellsT w B v l) (hr : ∀ t ∈ l, TrapR t) : Traps w v l :=
  ⟨(RowG.sl (n := 4) (cells := cellsT) (fun _ => rfl) h).imp (fun b o i _ _ hd => ⟨hd 0 (by decide), hd 1 (by decide), hd 2 (by decide), hd 3 (by decide)⟩), hr⟩
theorem RowG.fields {w : World} {B : Nat} {v : Value} {l : List FieldV} (h : RowG 59 3 cellsF w B v l) (hr : ∀ t ∈ l, FieldR t) : Fields w v l :=
  ⟨(RowG.sl (n := 3) (cells := cellsF) (fun _ => rfl) h).imp (fun b o i _ _ hd => ⟨hd 0 (by decide), hd 1 (by decide), hd 2 (by decide)⟩), hr⟩
theorem RowG.methods {w : World} {B : Nat} {v : Value} {l : List (MethodV × Value × Value × Value)} (h : RowG 62 8 cellsM w B v l) (hr : ∀ x ∈ l, MethodR x.1 ∧ Inside w x.1 x.2.1 x.2.2.1 x.2.2.2) : Methods w v (l.map (·.1)) := by
  have hs := RowG.sl (n := 8) (cells := cellsM) (fun _ => rfl) h
  have hg : ∀ i, i < l.length → (l.map (·.1)).getD i default = (l.getD i default).1 := fun i hi => by simp [List.getD, hi]
  refine ⟨fun i => (l.getD i default).2, ?_, fun i hi => ?_, fun m hm => ?_⟩
  · rw [List.length_map]
    refine hs.imp (fun b o i _ hi hd => ?_)
    rw [hg i hi]
    exact ⟨hd 0 (by decide), hd 1 (by decide), hd 2 (by decide), hd 3 (by decide), hd 4 (by decide), hd 5 (by decide), hd 6 (by decide), hd 7 (by decide)⟩
  · rw [List.length_map] at hi
    rw [hg i hi]
    exact (hr _ (getD_mem hi)).2
  · obtain ⟨x, hx, rfl⟩ := List.mem_map.1 hm
    exact (hr x hx).1

theorem textZ_want {cs : List ConstV} {i : Int} {s : ByteArray} (hs : s ≠ noT) : (textZ cs i).1 = s ↔ textZ cs i = (s, true) := by
  unfold textZ
  split
  · simp
  · constructor
    · intro h; exact absurd h.symm hs
    · intro h; simp at h
set_option maxHeartbeats 4000000 in
set_option maxRecDepth 100000 in
theorem readText5 (b rb : Nat) (sv : Value) (zs : List Int) (k : Nat) (w : World) (ap : Option Addr) (np cp : Nat) (cs : List ConstV) (s : ByteArray) (hs : s ≠ noT) (h : Rd w rb sv zs k) (q0 : w.cell? ⟨b, 0, none⟩ = some (.pointer (some ⟨rb, 0, none⟩))) (q2 : w.cell? ⟨b, 2, none⟩ = some (.slice ap np cp))
    (hp : Pool w (.slice ap np cp) cs) (hne : b ≠ rb) (hpe : ∀ j, (Value.slice ap np cp).ownBlock = some j → ¬ j = rb) :
    Calls Tryz.prog 91 #[.pointer (some ⟨b, 0, none⟩), .string s] w (RdE unitV rb sv zs w (textP cs s zs k)) := by
  have HR := Lib.hid h
  have HP := Lib.hid hp
  have NEB := Lib.hid hne
  have NEP := Lib.hid hpe
  have HS := Lib.hid hs
  clear h hp hne hpe hs
  go_enter Tryz.func91, Tryz.ntmps91
  go_wp2_with (fail)
  cases hx : numP 2 zs k with
  | error x =>
    have HX := Lib.hid hx
    clear hx
    refine wp_region_held_drew (S := fun wc => (wc.cell? ⟨b, 0, none⟩ = some (.pointer (some ⟨rb, 0, none⟩)) ∧ wc.cell? ⟨b, 2, none⟩ = some (.slice ap np cp)) ∧ Rd wc rb sv zs k ∧ Only (fun _ => False) w wc) (by kernel_rfl) ⟨⟨q0, q2⟩, HR.out.drawn ⟨1, rfl⟩, (Only.refl _ _).drew⟩ (fun hHeld => ?_)
    refine wpAnyH_take (i := 0) (v := ?_) (by simp only [List.getElem?_toArray, List.getElem?_cons_succ, List.getElem?_cons_zero]; rfl) (by kernel_rfl) (by kernel_rfl) (by kernel_rfl) (by exact fun _ _ _ h => h) (Or.inl ⟨by rfl, ?_⟩) (by assumption) ?_
    rotate_left 1
    · (intro w hSw; (try dsimp only at hSw); go_simp; try with_reducible rfl)
    try simp only [Act.put, List.setIfInBounds_toArray, List.set_cons_zero, List.set_cons_succ]
    refine wpAnyH_take (i := 1) (v := ?_) (by simp only [List.getElem?_toArray, List.getElem?_cons_succ, List.getElem?_cons_zero]; rfl) (by kernel_rfl) (by kernel_rfl) (by kernel_rfl) (by exact fun _ _ _ h => h) (Or.inl ⟨by rfl, ?_⟩) (by assumption) ?_
    rotate_left 1
    · (intro w hSw; (try dsimp only at hSw); go_simp; try with_reducible rfl)
    try simp only [Act.put, List.setIfInBounds_toArray, List.set_cons_zero, List.set_cons_succ]
    refine wpAnyH_take (i := 2) (v := ?_) (by simp only [List.getElem?_toArray, List.getElem?_cons_succ, List.getElem?_cons_zero]; rfl) (by kernel_rfl) (by kernel_rfl) (by kernel_rfl) (by exact fun _ _ _ h => h) (Or.inl ⟨by rfl, ?_⟩) (by assumption) ?_
    rotate_left 1
    · (intro w hSw; (try dsimp only at hSw); go_simp; try with_reducible rfl)
    try simp only [Act.put, List.setIfInBounds_toArray, List.set_cons_zero, List.set_cons_succ]
    refine wpAnyH_take (i := 3) (v := ?_) (by simp only [List.getElem?_toArray, List.getElem?_cons_succ, List.getElem?_cons_zero]; rfl) (by kernel_rfl) (by kernel_rfl) (by kernel_rfl) (by exact fun _ _ _ h => h) (Or.inl ⟨by rfl, ?_⟩) (by assumption) ?_
    rotate_left 1
    · (intro w hSw; (try dsimp only at hSw); go_simp; try with_reducible rfl)
    try simp only [Act.put, List.setIfInBounds_toArray, List.set_cons_zero, List.set_cons_succ]
    refine wpAnyH_take (i := 4) (v := ?_) (by simp only [List.getElem?_toArray, List.getElem?_cons_succ, List.getElem?_cons_zero]; rfl) (by kernel_rfl) (by kernel_rfl) (by kernel_rfl) (by exact fun _ _ _ h => h) (Or.inl ⟨by rfl, ?_⟩) (by assumption) ?_
    rotate_left 1
    · (intro w hSw; (try dsimp only at hSw); go_simp; try with_reducible rfl)
    try simp only [Act.put, List.setIfInBounds_toArray, List.set_cons_zero, List.set_cons_succ]
    refine wpAnyH_take (i := 5) (v := ?_) (by simp only [List.getElem?_toArray, List.getElem?_cons_succ, List.getElem?_cons_zero]; rfl) (by kernel_rfl) (by kernel_rfl) (by kernel_rfl) (by exact fun _ _ _ h => h) (Or.inl ⟨by rfl, ?_⟩) (by assumption) ?_
    rotate_left 1
    · (intro w hSw; (try dsimp only at hSw); go_simp; try with_reducible rfl)
    try simp only [Act.put, List.setIfInBounds_toArray, List.set_cons_zero, List.set_cons_succ]
    refine wpAnyH_ready (rs := [6]) (by kernel_rfl) (by simp) ?_
    refine AllReadyH.cons (by simp only [List.getElem?_toArray, List.getElem?_cons_succ, List.getElem?_cons_zero]; rfl) (fun K hK => ?_) AllReadyH.nil
    go_simp
    refine (readShort b rb sv zs k _ hHeld.2.1 hHeld.1.1).mono ?_
    rintro e w1 ⟨⟨i, k', h1, rfl, hr⟩ | ⟨x1, h1, rfl⟩, ho⟩
    · rw [HX.out] at h1; cases h1
    · rw [HX.out] at h1
      injection h1 with h1
      subst h1
      exact ⟨rfl, RdE.no (bindP_error HX.out) (hHeld.2.2.rb.rbs ho)⟩
  | ok y =>
    obtain ⟨i, k'⟩ := y
    have HX := Lib.hid hx
    clear hx
    refine wp_region_held_drew (S := fun wc => (wc.cell? ⟨b, 0, none⟩ = some (.pointer (some ⟨rb, 0, none⟩)) ∧ wc.cell? ⟨b, 2, none⟩ = some (.slice ap np cp)) ∧ Pool wc (.slice ap np cp) cs ∧ Only (fun j => j = rb) w wc) (by kernel_rfl) ⟨⟨q0, q2⟩, HP.out.only ((Only.refl (fun _ => False) _).drew) (fun _ _ h => h), (Only.refl _ _).drew⟩ (fun hHeld => ?_)
    refine wpAnyH_take (i := 0) (v := ?_) (by simp only [List.getElem?_toArray, List.getElem?_cons_succ, List.getElem?_cons_zero]; rfl) (by kernel_rfl) (by kernel_rfl) (by kernel_rfl) (by exact fun _ _ _ h => h) (Or.inl ⟨by rfl, ?_⟩) (by assumption) ?_
    rotate_left 1
    · (intro w hSw; (try dsimp only at hSw); go_simp; try with_reducible rfl)
    try simp only [Act.put, List.setIfInBounds_toArray, List.set_cons_zero, List.set_cons_succ]
    refine wpAnyH_take (i := 1) (v := ?_) (by simp only [List.getElem?_toArray, List.getElem?_cons_succ, List.getElem?_cons_zero]; rfl) (by kernel_rfl) (by kernel_rfl) (by kernel_rfl) (by exact fun _ _ _ h => h) (Or.inl ⟨by rfl, ?_⟩) (by assumption) ?_
    rotate_left 1
    · (intro w hSw; (try dsimp only at hSw); go_simp; try with_reducible rfl)
    try simp only [Act.put, List.setIfInBounds_toArray, List.set_cons_zero, List.set_cons_succ]
    refine wpAnyH_take (i := 2) (v := ?_) (by simp only [List.getElem?_toArray, List.getElem?_cons_succ, List.getElem?_cons_zero]; rfl) (by kernel_rfl) (by kernel_rfl) (by kernel_rfl) (by exact fun _ _ _ h => h) (Or.inl ⟨by rfl, ?_⟩) (by assumption) ?_
    rotate_left 1
    · (intro w hSw; (try dsimp only at hSw); go_simp; try with_reducible rfl)
    try simp only [Act.put, List.setIfInBounds_toArray, List.set_cons_zero, List.set_cons_succ]
    refine wpAnyH_take (i := 3) (v := ?_) (by simp only [List.getElem?_toArray, List.getElem?_cons_succ, List.getElem?_cons_zero]; rfl) (by kernel_rfl) (by kernel_rfl) (by kernel_rfl) (by exact fun _ _ _ h => h) (Or.inl ⟨by rfl, ?_⟩) (by assumption) ?_
    rotate_left 1
    · (intro w hSw; (try dsimp only at hSw); go_simp; try with_reducible rfl)
    try simp only [Act.put, List.setIfInBounds_toArray, List.set_cons_zero, List.set_cons_succ]
    refine wpAnyH_take (i := 4) (v := ?_) (by simp only [List.getElem?_toArray, List.getElem?_cons_succ, List.getElem?_cons_zero]; rfl) (by kernel_rfl) (by kernel_rfl) (by kernel_rfl) (by exact fun _ _ _ h => h) (Or.inl ⟨by rfl, ?_⟩) (by assumption) ?_
    rotate_left 1
    · (intro w hSw; (try dsimp only at hSw); go_simp; try with_reducible rfl)
    try simp only [Act.put, List.setIfInBounds_toArray, List.set_cons_zero, List.set_cons_succ]
    refine wpAnyH_take (i := 5) (v := ?_) (by simp only [List.getElem?_toArray, List.getElem?_cons_succ, List.getElem?_cons_zero]; rfl) (by kernel_rfl) (by kernel_rfl) (by kernel_rfl) (by exact fun _ _ _ h => h) (Or.inl ⟨by rfl, ?_⟩) (by assumption) ?_
    rotate_left 1
    · (intro w hSw; (try dsimp only at hSw); go_simp; try with_reducible rfl)
    try simp only [Act.put, List.setIfInBounds_toArray, List.set_cons_zero, List.set_cons_succ]
    refine wpAnyH_ready (rs := [6]) (by kernel_rfl) (by simp) ?_
    refine AllReadyH.cons (by simp only [List.getElem?_toArray, List.getElem?_cons_succ, List.getElem?_cons_zero]; rfl) (fun K hK => ?_) AllReadyH.nil
    go_simp
    refine (readShort b rb sv zs k _ (HR.out.drawn ⟨1, rfl⟩) hHeld.1.1).mono ?_; rintro e w1 ⟨h, ho⟩; obtain ⟨i', k'', h1, rfl, hr⟩ : ∃ i' k'', numP 2 zs k = .ok (i', k'') ∧ e = .returned (.int .i64 i') ∧ Rd w1 rb sv zs k'' := (h.resolve_right (fun ⟨x, hx, _⟩ => by rw [HX.out] at hx; cases hx)); rw [HX.out] at h1; injection h1 with h1; injection h1 with h1 h2; subst h1 h2; have HR1 := Lib.hid hr; have HQ := Lib.hid (And.intro (And.intro (ho.cell hHeld.1.1 NEB.out) (ho.cell hHeld.1.2 NEB.out)) (And.intro (Pool.only hHeld.2.1 ho NEP.out) (hHeld.2.2.rbs ho))); clear h hr ho
    go_wp2_with fail
    refine hK.out _ _ ?_ (fun hHeld2 => ?_)
    · exact HQ.out
    clear hK K
    try simp only [Act.put, List.setIfInBounds_toArray, List.set_cons_zero, List.set_cons_succ]
    clear hHeld
    have hHeld := hHeld2
    clear hHeld2
    refine wpAnyH_ready (rs := [7]) (by kernel_rfl) (by simp) ?_
    refine AllReadyH.cons (by simp only [List.getElem?_toArray, List.getElem?_cons_succ, List.getElem?_cons_zero]; rfl) (fun K hK => ?_) AllReadyH.nil
    go_simp
    refine (progText _ cs i _ hHeld.2.1).mono ?_; rintro e w2 ⟨rfl, ho⟩; have HR2 := Lib.hid (HR1.out.only ho (fun h => h) (fun _ _ h => h)); have HQ2 := Lib.hid (And.intro (And.intro (ho.cell hHeld.1.1 (fun h => h)) (ho.cell hHeld.1.2 (fun h => h))) (And.intro (Pool.only hHeld.2.1 ho (fun _ _ h => h)) (hHeld.2.2.rbs ho.rb))); clear ho
    go_wp2_with fail
    refine hK.out _ _ ?_ (fun hHeld2 => ?_)
    · exact HQ2.out
    clear hK K
    try simp only [Act.put, List.setIfInBounds_toArray, List.set_cons_zero, List.set_cons_succ]
    clear hHeld
    have hHeld := hHeld2
    clear hHeld2
    refine wpAnyH_take (i := 8) (v := ?_) (by simp only [List.getElem?_toArray, List.getElem?_cons_succ, List.getElem?_cons_zero]; rfl) (by kernel_rfl) (by kernel_rfl) (by kernel_rfl) (by exact fun _ _ _ h => h) (Or.inl ⟨by rfl, ?_⟩) (by assumption) ?_
    rotate_left 1
    · (intro w hSw; (try dsimp only at hSw); go_simp; try with_reducible rfl)
    try simp only [Act.put, List.setIfInBounds_toArray, List.set_cons_zero, List.set_cons_succ]
    refine wpAnyH_take (i := 9) (v := ?_) (by simp only [List.getElem?_toArray, List.getElem?_cons_succ, List.getElem?_cons_zero]; rfl) (by kernel_rfl) (by kernel_rfl) (by kernel_rfl) (by exact fun _ _ _ h => h) (Or.inl ⟨by rfl, ?_⟩) (by assumption) ?_
    rotate_left 1
    · (intro w hSw; (try dsimp only at hSw); go_simp; try with_reducible rfl)
    try simp only [Act.put, List.setIfInBounds_toArray, List.set_cons_zero, List.set_cons_succ]
    refine wpAnyH_take (i := 10) (v := ?_) (by simp only [List.getElem?_toArray, List.getElem?_cons_succ, List.getElem?_cons_zero]; rfl) (by kernel_rfl) (by kernel_rfl) (by kernel_rfl) (by exact fun _ _ _ h => h) (Or.inl ⟨by rfl, ?_⟩) (by assumption) ?_
    rotate_left 1
    · (intro w hSw; (try dsimp only at hSw); go_simp; try with_reducible rfl)
    try simp only [Act.put, List.setIfInBounds_toArray, List.set_cons_zero, List.set_cons_succ]
    refine wpAnyH_take (i := 11) (v := ?_) (by simp only [List.getElem?_toArray, List.getElem?_cons_succ, List.getElem?_cons_zero]; rfl) (by kernel_rfl) (by kernel_rfl) (by kernel_rfl) (by exact fun _ _ _ h => h) (Or.inl ⟨by rfl, ?_⟩) (by assumption) ?_
    rotate_left 1
    · (intro w hSw; (try dsimp only at hSw); go_simp; try with_reducible rfl)
    try simp only [Act.put, List.setIfInBounds_toArray, List.set_cons_zero, List.set_cons_succ]
    refine wpAnyH_take (i := 12) (v := ?_) (by simp only [List.getElem?_toArray, List.getElem?_cons_succ, List.getElem?_cons_zero]; rfl) (by kernel_rfl) (by kernel_rfl) (by kernel_rfl) (by exact fun _ _ _ h => h) (Or.inl ⟨by rfl, ?_⟩) (by assumption) ?_
    rotate_left 1
    · (intro w hSw; (try dsimp only at hSw); go_simp; try with_reducible rfl)
    try simp only [Act.put, List.setIfInBounds_toArray, List.set_cons_zero, List.set_cons_succ]
    refine wpAnyH_done (by kernel_rfl) ?_ _
    have HO := Lib.hid hHeld.2.2
    clear hHeld q0 q2
    by_cases ht : textZ cs i = (s, true)
    · have HE := Lib.hid (show textP cs s zs k = .ok ((), k') from (bindP_ok HX.out).trans (if_pos ht))
      have h1 := (textZ_want HS.out).2 ht
      rw [h1]
      clear ht h1
      go_wp2_with (go_at_call 70; refine (mustT _).mono ?_; rintro e w2 ⟨rfl, rfl⟩)
      go_end0
      exact RdE.ok (V := unitV) HE.out HR2.out HO.out
    · have HE := Lib.hid (show textP cs s zs k = .error 50 from (bindP_ok HX.out).trans (if_neg ht))
      have h1 : (textZ cs i).1 ≠ s := fun e => ht ((textZ_want HS.out).1 e)
      have hb := text_ne h1
      generalize (textZ cs i).1 = y at *
      clear ht h1
      go_wp2_with (go_at_call 70; refine (mustF _).mono ?_; rintro e w2 ⟨rfl, rfl⟩)
      exact ⟨rfl, RdE.no HE.out HO.out⟩
end Go.Proofs.YtodhdiccfobcfaaGreatDoor
