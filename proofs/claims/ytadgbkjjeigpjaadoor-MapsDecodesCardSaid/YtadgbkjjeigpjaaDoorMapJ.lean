/- The program's Decode of maps: what the document says. No condition but the form's own reach. -/
import Derived.Test.YtadgbkjjeigpjaaDoorMapI
namespace Go.Proofs.YtadgbkjjeigpjaaDoor
open Go.RowKit
set_option linter.unusedVariables false
set_option linter.unusedSimpArgs false

/-- What Decode leaves. -/
def DecMTo (w : World) (cs : List ConstV) (zs : List Int) (e : Ending) (w' : World) : Prop :=
  ((∃ xs v, decM cs zs = .ok (xs.map (·.1)) ∧ e = .returned (.tuple #[v, .int .i64 0]) ∧ MapsO w' w.heap.size v xs ∧ xs.length ≤ 65535) ∨ (∃ x, decM cs zs = .error x ∧ e = .returned (.tuple #[.slice none 0 0, .int .i64 x]))) ∧ Only (fun _ => False) w w'
set_option maxHeartbeats 8000000 in
set_option maxRecDepth 100000 in
theorem progMDecode (vp vb : Value) (cs : List ConstV) (zs : List Int) (w : World) (hT : Tags w) (hg : 0 < w.heap.size) (hp : Pool w vp cs) (hb : Bytes w vb zs) (hl : zs.length ≤ 140737488355328) :
    Calls Tryd.prog 5 #[vp, vb] w (DecMTo w cs zs) := by
  obtain ⟨ap, cp, rfl, -⟩ := id hp
  obtain ⟨ab, cb, rfl, -⟩ := id hb
  by_cases h0 : zs = []
  · subst h0
    go_enter Tryd.func5, Tryd.ntmps5
    go_wp2
    go_ret2
    exact ⟨.inl ⟨[], _, rfl, rfl, MapsO.nil _ _, by simp⟩, Only.refl _ _⟩
  have hlz : 0 < zs.length := List.length_pos_iff.2 h0
  have hlb : (((zs.length : Nat) : Int) == 0) = false := by rw [beq_eq_false_iff_ne]; omega
  have hdec : decM cs zs = (match allM cs zs 0 with | .ok (l, _) => .ok l | .error e => .error e) := if_neg h0
  have cN := newReader _ zs w hb hl
  have CN := Lib.hid cN
  have HP := Lib.hid hp
  have HT := Lib.hid hT
  have HG := Lib.hid hg
  have HD := Lib.hid hdec
  clear cN hp hT hg hb hl h0 hlz hdec
  have hmf : ∀ (fn : Fn) (first cap : Array Value) (w : World), (Instr.makeFunc fn first cap).run Tryd.prog w = .ok (.func fn first cap) w := fun _ _ _ _ => rfl
  go_enter Tryd.func5, Tryd.ntmps5
  go_wp2_with (fail)
  refine CN.out.mono ?_
  rintro e w1 ⟨rb, sv, rfl, hrd, hbel, hrb, hsv⟩
  have ho1 := Only.of_below hbel (fun _ => False)
  have hrp : Rp w1 rb sv (.slice ap cs.length cp) cs zs 0 := ⟨hrd, HP.out.only ho1 (fun _ _ h => h), fun j hj hc e => by have := Pool.lt HP.out j hj hc; omega⟩
  have ho2 := (Only.refl (fun _ => False) w1).alloc (.cells #[.int .i64 0] 25)
  have hrl := hrd.lt.1
  have cA := mAll rb sv ap cs.length cp cs zs 0 _ ((HT.out.only ho1 (fun h => h)).only ho2 (fun h => h)) ⟨by have := HG.out; omega, by have := HG.out; have := ho1.size; have := ho2.size; omega⟩ (hrp.idle ho2)
  have hcell := heap_alloc_new w1 (.cells #[.int .i64 0] 25)
  have cU := mUnless 13 (enters_of Tryd.func13 (by kernel_rfl) rfl) #[rdV rb (.slice ap cs.length cp)] w1
    (fun v w2 => (∃ xs, allM cs zs 0 = .ok (xs.map (·.1), zs.length) ∧ MapsO w2 (w1.heap.size + 1) v xs ∧ xs.length ≤ 65535) ∧ Only (fun j => j = rb) (w1.alloc (.cells #[.int .i64 0] 25)) w2)
    (fun z w2 => allM cs zs 0 = .error z ∧ Only (fun j => j = rb) (w1.alloc (.cells #[.int .i64 0] 25)) w2)
    (cA.mono (fun e w2 h => by
      obtain ⟨h1 | h1, ho⟩ := h
      · obtain ⟨xs, x, m, c, a1, a2, a3, a4⟩ := h1
        exact .inl ⟨x, m, c, a2, ⟨xs, a1, by simpa using a3, a4⟩, ho⟩
      · obtain ⟨x, a1, a2⟩ := h1
        exact .inr ⟨x, a2, a1, ho⟩))
    (fun v w2 h => h.2.heap hcell (by omega)) (fun z w2 h => h.2.heap hcell (by omega))
  unfold rdV at cU
  have CU := Lib.hid cU
  have HO1 := Lib.hid ho1
  have HRB := Lib.hid hrb
  clear cA cU ho2 hcell hrp hrd hbel ho1 CN hrb hsv hrl
  go_wp2_with (fail)
  refine CU.out.mono ?_
  rintro e w3 (⟨v, w2, rfl, ⟨⟨xs, h1, h2, h3⟩, h4⟩, rfl⟩ | ⟨z, w2, rfl, ⟨h1, h4⟩, rfl⟩)
  · obtain ⟨av, cv, rfl, -, -⟩ := slice_of_owns h2.rg
    have hst := (Only.refl (fun j => j = w1.heap.size) w2).setCell (p := ⟨w1.heap.size, 0, none⟩) (fun _ => rfl) (.int .i64 0)
    have HF := Lib.hid (show MapsO (w2.setCell ⟨w1.heap.size, 0, none⟩ (.int .i64 0)) w.heap.size (.slice av xs.length cv) xs from (h2.keep hst (fun j hj => by subst hj; exact Nat.lt_succ_self _)).base (by have := HO1.out.size; omega))
    have HO := Lib.hid (show Only (fun _ => False) w (w2.setCell ⟨w1.heap.size, 0, none⟩ (.int .i64 0)) from (((HO1.out.alloc (.cells #[.int .i64 0] 25)).mono (T := fun j => j = rb ∨ j = w1.heap.size) (fun _ h _ => h.elim)).trans (h4.mono (T := fun j => j = rb ∨ j = w1.heap.size) (fun _ h _ => .inl h)) (fun _ h _ => h)).trans hst (fun _ h _ => .inr h) |>.mono (fun j hj hl => by have := HRB.out; have := HO1.out.size; omega))
    have HE := Lib.hid (HD.out.trans (show _ = Except.ok (xs.map (·.1)) by rw [h1]))
    have HL := Lib.hid h3
    clear h1 h2 h3 h4 hst CU
    generalize (w2.setCell ⟨w1.heap.size, 0, none⟩ (.int .i64 0)) = w4 at *
    go_wp2
    go_ret2
    exact ⟨.inl ⟨xs, _, HE.out, rfl, HF.out, HL.out⟩, HO.out⟩
  · have hst := (Only.refl (fun j => j = w1.heap.size) w2).setCell (p := ⟨w1.heap.size, 0, none⟩) (fun _ => rfl) (.int .i64 z)
    have HO := Lib.hid (show Only (fun _ => False) w (w2.setCell ⟨w1.heap.size, 0, none⟩ (.int .i64 z)) from (((HO1.out.alloc (.cells #[.int .i64 0] 25)).mono (T := fun j => j = rb ∨ j = w1.heap.size) (fun _ h _ => h.elim)).trans (h4.mono (T := fun j => j = rb ∨ j = w1.heap.size) (fun _ h _ => .inl h)) (fun _ h _ => h)).trans hst (fun _ h _ => .inr h) |>.mono (fun j hj hl => by have := HRB.out; have := HO1.out.size; omega))
    have HE := Lib.hid (HD.out.trans (show _ = Except.error z by rw [h1]))
    clear h1 h4 hst CU
    generalize (w2.setCell ⟨w1.heap.size, 0, none⟩ (.int .i64 z)) = w4 at *
    go_wp2
    go_ret2
    exact ⟨.inr ⟨z, HE.out, rfl⟩, HO.out⟩
end Go.Proofs.YtadgbkjjeigpjaaDoor
