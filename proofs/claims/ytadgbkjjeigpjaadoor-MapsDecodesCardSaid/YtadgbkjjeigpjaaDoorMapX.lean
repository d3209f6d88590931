/- The document's own Decode of maps. No condition but the form's own reach. -/
import Derived.Test.YtadgbkjjeigpjaaDoorMapU
import Derived.Test.YtadgbkjjeigpjaaDoorMapJ
namespace Go.Proofs.YtadgbkjjeigpjaaDoor
open Go.RowKit
set_option linter.unusedVariables false
set_option linter.unusedSimpArgs false

/-- So many maps are read, to a state. -/
def RunS (cs : List ConstV) (n : Nat) (zs : List Int) (σ0 : StZ) (l : List MapV) : StZ → Prop
  | .ok k => ∃ k0, σ0 = .ok k0 ∧ RunTo cs n zs k0 l k
  | .error e => runP (runM cs n 0) zs σ0 = .error e
section
variable {cs : List ConstV} {n : Nat} {zs : List Int} {σ0 σ σ' : StZ} {l : List MapV} {m : MapV}
theorem RunS.start : RunS cs n zs σ0 [] σ0 := by
  cases σ0 with
  | ok k => exact ⟨k, rfl, RunTo.start⟩
  | error e => rfl
theorem RunS.more {k : Nat} (h : RunS cs n zs σ0 l (.ok k)) (hl : l.length < n) (hp : Nx (mapM cs (behindM l)) zs (.ok k) m σ') : RunS cs n zs σ0 (l ++ [m]) σ' := by
  obtain ⟨k0, rfl, h⟩ := h
  cases σ' with
  | ok k' => exact ⟨k0, rfl, h.more hl hp⟩
  | error e => exact h.fail hl hp
theorem RunS.done (h : RunS cs n zs σ0 l σ) (hd : (∃ e, σ = .error e) ∨ l.length = n) : Nx (runM cs n 0) zs σ0 l σ := by
  cases σ with
  | error e => exact h
  | ok k =>
    rcases hd with ⟨e, he⟩ | hd
    · cases he
    · obtain ⟨k0, rfl, h⟩ := h
      exact h.done hd
end
theorem all_of {cs : List ConstV} {zs : List Int} {n : Int} {l : List MapV} {σ1 σ : StZ} (h1 : Nx (numP 2) zs (.ok 0) n σ1) (h2 : Nx (runM cs n.toNat 0) zs σ1 l σ) : allM cs zs 0 = match σ with | .ok k => if k = zs.length then .ok (l, k) else .error 100 | .error e => .error e := by
  have h := Nx.bind (f := fun n => runM cs n.toNat 0) h1 h2
  have e : allM cs zs 0 = bindP (bindP (numP 2) fun n => runM cs n.toNat 0) (fun l => fun zs k => if k = zs.length then .ok (l, k) else .error 100) zs 0 := by
    unfold allM bindP
    cases numP 2 zs 0 with
    | error e => rfl
    | ok y => rfl
  rw [e]
  unfold Nx at h
  cases σ with
  | ok k => simp only [runP, withZ] at h; rw [bindP_ok h]
  | error e => simp only [runP, withZ] at h; rw [bindP_error h]
theorem MapsO.below {S : Nat → Prop} {w w1 : World} {B : Nat} {v : Value} {xs : List MapX} (h : MapsO w B v xs) (ho : Only S w w1) (hS : ∀ j, S j → w.heap.size ≤ j ∨ j < B) : MapsO w1 B v xs :=
  ⟨RowG.only h.rg ho (fun j hj hs => by have := h.rg.ge j hj; have := hS j hs; omega), fun x hx => ⟨(h.ins x hx).1.only ho (fun j hj hs => by have := (h.ins x hx).1.ge j hj; have := hS j hs; omega), (h.ins x hx).2.1.only ho (fun j hj hs => by have := (h.ins x hx).2.1.ge j hj; have := hS j hs; omega), (h.ins x hx).2.2⟩⟩
theorem nx_ok {α : Type} {p : Pr α} {zs : List Int} {σ : StZ} {a : α} {k : Nat} (h : Nx p zs σ a (.ok k)) : ∃ k', σ = .ok k' := by
  cases σ with
  | ok k' => exact ⟨k', rfl⟩
  | error e => unfold Nx at h; simp only [runP, withZ] at h; cases h
theorem at_ok {cs : List ConstV} {zs : List Int} {a : Int} {lo st : List TypeV} {σc σd σe σf : StZ} (h4 : (if decide ((4096 : Int) < a) = true then failS 100 σc else σc) = σd) (h5 : Nx (typesM cs) zs σd lo σe) (h6 : Nx (typesM cs) zs σe st σf) : (∃ e, σf = .error e) ∨ a ≤ 4096 := by
  cases σf with
  | error e => exact .inl ⟨e, rfl⟩
  | ok k =>
    obtain ⟨k1, rfl⟩ := nx_ok h6
    obtain ⟨k2, rfl⟩ := nx_ok h5
    refine .inr ?_
    by_cases hq : (4096 : Int) < a
    · rw [decide_eq_true hq, if_pos rfl] at h4
      cases σc <;> simp [failS] at h4
    · omega
theorem nx_map {cs : List ConstV} {zs : List Int} {f x s a : Int} {lo st : List TypeV} {σ σa σb σc σd σe σf : StZ} (h1 : Nx (numP 1) zs σ x σa) (h2 : (if (x != 255) = true then failS 100 σa else σa) = σb) (h3 : Nx (numP 2) zs σb s σc) (ha : f + s = a) (h4 : (if decide ((4096 : Int) < a) = true then failS 100 σc else σc) = σd)
    (h5 : Nx (typesM cs) zs σd lo σe) (h6 : Nx (typesM cs) zs σe st σf) : Nx (mapM cs f) zs σ ⟨a, lo, st, freshM lo⟩ σf := by
  have m1 : Nx (mustM (decide (x = 255))) zs σa () σb := by
    have := Nx.mustM (zs := zs) (σ := σa) (decide (x = 255))
    rw [← h2]
    by_cases hq : x = 255
    · rw [decide_eq_true hq] at this ⊢; rw [show (x != 255) = false by simp [hq]]; exact this
    · rw [decide_eq_false hq] at this ⊢; rw [show (x != 255) = true by simp [hq]]; exact this
  have m2 : Nx (mustM (decide (f + s ≤ 4096))) zs σc () σd := by
    have := Nx.mustM (zs := zs) (σ := σc) (decide (f + s ≤ 4096))
    rw [← h4, ← ha]
    by_cases hq : f + s ≤ 4096
    · rw [decide_eq_true hq] at this ⊢; rw [decide_eq_false (by omega : ¬ (4096 : Int) < f + s)]; exact this
    · rw [decide_eq_false hq] at this ⊢; rw [decide_eq_true (by omega : (4096 : Int) < f + s)]; exact this
  have hp : Nx (placeM f) zs σb a σd := by
    rw [← ha]
    exact Nx.bind (f := fun n => bindP (mustM (decide (f + n ≤ 4096))) fun _ => retP (f + n)) h3 (Nx.bind (f := fun _ => retP (f + s)) m2 (Nx.ret _ _ _))
  exact Nx.bind (f := fun x => bindP (mustM (decide (x = 255))) fun _ => bindP (placeM f) fun a => bindP (typesM cs) fun lo => bindP (typesM cs) fun st => retP (⟨a, lo, st, freshM lo⟩ : MapV)) h1
    (Nx.bind (f := fun _ => bindP (placeM f) fun a => bindP (typesM cs) fun lo => bindP (typesM cs) fun st => retP (⟨a, lo, st, freshM lo⟩ : MapV)) m1
    (Nx.bind (f := fun a => bindP (typesM cs) fun lo => bindP (typesM cs) fun st => retP (⟨a, lo, st, freshM lo⟩ : MapV)) hp
    (Nx.bind (f := fun lo => bindP (typesM cs) fun st => retP (⟨a, lo, st, freshM lo⟩ : MapV)) h5
    (Nx.bind (f := fun st => retP (⟨a, lo, st, freshM lo⟩ : MapV)) h6 (Nx.ret _ _ _)))))
set_option maxHeartbeats 16000000 in
set_option maxRecDepth 100000 in
theorem refMDecode (vp vb : Value) (cs : List ConstV) (zs : List Int) (w : World) (hp : Pool w vp cs) (hb : Bytes w vb zs) (hl : zs.length ≤ 140737488355328) :
    Calls Tryd.prog 6 #[vp, vb] w (DecMTo w cs zs) := by
  obtain ⟨ap, cp, rfl, -⟩ := id hp
  obtain ⟨ab, cb, rfl, hbc1, hbc2, -⟩ := id hb
  by_cases h0 : zs = []
  · subst h0
    go_enter Tryd.func6, Tryd.ntmps6
    go_wp2
    go_ret2
    exact ⟨.inl ⟨[], _, rfl, rfl, MapsO.nil _ _, by simp⟩, Only.refl _ _⟩
  obtain ⟨i0, hi, hz0, hz1, hz2⟩ := info_parts info_map
  have hlz : 0 < zs.length := List.length_pos_iff.2 h0
  have hlb : (((zs.length : Nat) : Int) == 0) = false := by rw [beq_eq_false_iff_ne]; omega
  have hdec : decM cs zs = (match allM cs zs 0 with | .ok (l, _) => .ok l | .error e => .error e) := if_neg h0
  have ho := ((Only.refl (fun _ => False) w).alloc (.cells #[.slice ab zs.length cb, .int .i64 0] 52)).alloc (.cells #[.pointer (some ⟨w.heap.size, 0, none⟩), .slice ap cs.length cp, .int .i64 0] 54)
  have h1 := ((Only.refl (fun _ => False) (w.alloc (.cells #[.slice ab zs.length cb, .int .i64 0] 52))).alloc (.cells #[.pointer (some ⟨w.heap.size, 0, none⟩), .slice ap cs.length cp, .int .i64 0] 54)).heap (heap_alloc_new w (.cells #[.slice ab zs.length cb, .int .i64 0] 52)) (fun h => h)
  have h2 := heap_alloc_new (w.alloc (.cells #[.slice ab zs.length cb, .int .i64 0] 52)) (.cells #[.pointer (some ⟨w.heap.size, 0, none⟩), .slice ap cs.length cp, .int .i64 0] 54)
  have hs1 : (w.alloc (.cells #[.slice ab zs.length cb, .int .i64 0] 52)).heap.size = w.heap.size + 1 := by simp
  rw [hs1] at h2
  have hM0 : Mq ((w.alloc (.cells #[.slice ab zs.length cb, .int .i64 0] 52)).alloc (.cells #[.pointer (some ⟨w.heap.size, 0, none⟩), .slice ap cs.length cp, .int .i64 0] 54)) (w.heap.size + 1) w.heap.size (.slice ab zs.length cb) (.slice ap cs.length cp) cs zs (.ok 0) 0 0 := ⟨h2, ⟨h1, hb.only ho (fun _ _ _ h => h), fun j hj hz => by have := Bytes.lt hb j hj hz; omega, Nat.zero_le _, hl⟩, hp.only ho (fun _ _ h => h), ⟨rfl, rfl⟩, by omega, fun j hj hz e => by have := Bytes.lt hb j hj hz; omega, fun j hj hc e => by have := Pool.lt hp j hj hc; omega⟩
  have HM0 := Lib.hid hM0
  have HO0 := Lib.hid ho
  have HB0 := Lib.hid hb
  have HP0 := Lib.hid hp
  have HD := Lib.hid hdec
  have HW0S := Lib.hid (show ((w.alloc (.cells #[.slice ab zs.length cb, .int .i64 0] 52)).alloc (.cells #[.pointer (some ⟨w.heap.size, 0, none⟩), .slice ap cs.length cp, .int .i64 0] 54)).heap.size = w.heap.size + 2 by simp)
  have cN := mqNum (w.heap.size + 1) w.heap.size (.slice ab zs.length cb) (.slice ap cs.length cp) cs zs (.ok 0) 0 0 _ 2 (by decide) (by decide) hM0
  have CN := Lib.hid cN
  clear hp hb hl h0 hlz hdec ho h1 h2 hs1 hM0 cN
  go_enter Tryd.func6, Tryd.ntmps6
  go_wp2_with (fail)
  refine CN.out.mono ?_
  rintro en w1 ⟨n, σ1, rfl, hN, hbn, hto⟩
  simp only [Int.reducePow] at hbn
  obtain ⟨mm, rfl⟩ : ∃ mm : Nat, n = mm := ⟨n.toNat, by omega⟩
  have HTO1 := Lib.hid hto
  have HN := Lib.hid hN
  clear hN hto CN
  go_wp2
  go_loopw [10, 9, 8] (fun iv lv av wr => ∃ (xs : List MapX) (σr : StZ) (at_ : Int), iv = .int .i64 xs.length ∧ av = .int .i64 at_ ∧ xs.length ≤ mm ∧ RunS cs mm zs σ1 (xs.map (·.1)) σr ∧ MapsO wr (w.heap.size + 2) lv xs ∧ MqTo ((w.alloc (.cells #[.slice ab zs.length cb, .int .i64 0] 52)).alloc (.cells #[.pointer (some ⟨w.heap.size, 0, none⟩), .slice ap cs.length cp, .int .i64 0] 54)) (w.heap.size + 1) w.heap.size (.slice ab zs.length cb) (.slice ap cs.length cp) cs zs σr wr ∧ (0 ≤ at_ ∧ ((∃ e, σr = .error e) ∨ at_ ≤ 4096)) ∧
      ((xs = [] ∧ at_ = 0) ∨ (xs ≠ [] ∧ behindM (xs.map (·.1)) = at_ + 1))) (fun iv _ _ _ => mm - (intOf iv).toNat)
  case atStart => exact ⟨[], σ1, 0, rfl, rfl, Nat.zero_le _, .start, MapsO.nil _ _, HTO1.out, ⟨by omega, .inr (by omega)⟩, .inl ⟨rfl, rfl⟩⟩
  case round =>
    obtain ⟨xs, σr, at_, rfl, rfl, hle, hrs, hmx, hto, har, hbh⟩ := hrel
    obtain ⟨al, cl, rfl, l1_, l2_⟩ := slice_of_owns hmx.rg
    have HTO := Lib.hid hto
    obtain ⟨⟨kr, er, hm⟩, hon⟩ := hto
    have q2 := cell_blk hm.blk 2
    have q2 : wr.cell? ⟨w.heap.size + 1, 2, none⟩ = some (.int .i64 er) := q2
    have HM := Lib.hid hm
    have HMX := Lib.hid hmx
    have HRS := Lib.hid hrs
    have HAR := Lib.hid har
    have HWR := Lib.hid (show w.heap.size + 2 ≤ wr.heap.size from by have := hon.size; rw [HW0S.out] at this; exact this)
    clear hm hmx hrs hon har HTO1
    cases σr with
    | error y =>
      obtain ⟨rfl, hy⟩ := HM.out.e_no
      have hyb : (er == 0) = false := by simpa using hy
      clear hy
      by_cases hlt : xs.length < mm
      · have hltz : (xs.length : Int) < (mm : Int) := by omega
        have q0 : wr.cell? ⟨w.heap.size + 1, 0, none⟩ = some (.pointer (some ⟨w.heap.size, 0, none⟩)) := cell_blk HM.out.blk 0
        have r1 : wr.cell? ⟨w.heap.size, 1, none⟩ = some (.int .i64 kr) := cell_blk HM.out.rf.blk 1
        have cO := mqBad (w.heap.size + 1) w.heap.size (.slice ab zs.length cb) (.slice ap cs.length cp) cs zs (.error er) kr er wr (((kr : Nat) : Int) != ((zs.length : Nat) : Int)) HM.out
        have CO := Lib.hid cO
        have HR := Lib.hid (show Nx (runM cs mm 0) zs σ1 (xs.map (·.1)) (.error er) from HRS.out.done (.inl ⟨_, rfl⟩))
        clear cO HRS
        go_wp2_with (fail)
        refine CO.out.mono ?_
        rintro en w2 ⟨rfl, hto2⟩
        have HM2 := Lib.hid (HMX.out.keep hto2.2 (fun j hj => by omega))
        have HO2 := Lib.hid (show Only (fun _ => False) w w2 from (((HO0.out.mono (T := fun j => j = w.heap.size + 1 ∨ j = w.heap.size) (fun _ h _ => h.elim)).trans HTO.out.2 (fun _ h _ => h)).trans hto2.2 (fun _ h _ => h)).mono (fun j hj hl => by omega))
        rw [show (if ((kr : Int) != (zs.length : Int)) = true then failS 100 (.error er) else .error er) = (.error er : StZ) by split <;> rfl] at hto2
        obtain ⟨⟨k2, e2, hm2⟩, _⟩ := hto2
        obtain ⟨rfl, hy2⟩ := hm2.e_no
        have hyn : (e2 != 0) = true := by simpa using hy2
        have q22 : w2.cell? ⟨w.heap.size + 1, 2, none⟩ = some (.int .i64 e2) := cell_blk hm2.blk 2
        have HE := Lib.hid (HD.out.trans (show _ = Except.error e2 by rw [all_of HN.out (show Nx (runM cs (mm : Int).toNat 0) zs σ1 (xs.map (·.1)) (.error e2) by rw [Int.toNat_natCast]; exact HR.out)]))
        clear hm2 hy2 CO HR HTO HM
        go_wp2
        go_quiet (fail)
        go_wp2
        go_ret2
        exact ⟨.inr ⟨e2, HE.out, rfl⟩, HO2.out.drewN _⟩
      · have hltz : ¬ (xs.length : Int) < (mm : Int) := by omega
        have q0 : wr.cell? ⟨w.heap.size + 1, 0, none⟩ = some (.pointer (some ⟨w.heap.size, 0, none⟩)) := cell_blk HM.out.blk 0
        have r1 : wr.cell? ⟨w.heap.size, 1, none⟩ = some (.int .i64 kr) := cell_blk HM.out.rf.blk 1
        have cO := mqBad (w.heap.size + 1) w.heap.size (.slice ab zs.length cb) (.slice ap cs.length cp) cs zs (.error er) kr er wr (((kr : Nat) : Int) != ((zs.length : Nat) : Int)) HM.out
        have CO := Lib.hid cO
        have HR := Lib.hid (show Nx (runM cs mm 0) zs σ1 (xs.map (·.1)) (.error er) from HRS.out.done (.inl ⟨_, rfl⟩))
        clear cO HRS
        go_wp2_with (fail)
        refine CO.out.mono ?_
        rintro en w2 ⟨rfl, hto2⟩
        have HM2 := Lib.hid (HMX.out.keep hto2.2 (fun j hj => by omega))
        have HO2 := Lib.hid (show Only (fun _ => False) w w2 from (((HO0.out.mono (T := fun j => j = w.heap.size + 1 ∨ j = w.heap.size) (fun _ h _ => h.elim)).trans HTO.out.2 (fun _ h _ => h)).trans hto2.2 (fun _ h _ => h)).mono (fun j hj hl => by omega))
        rw [show (if ((kr : Int) != (zs.length : Int)) = true then failS 100 (.error er) else .error er) = (.error er : StZ) by split <;> rfl] at hto2
        obtain ⟨⟨k2, e2, hm2⟩, _⟩ := hto2
        obtain ⟨rfl, hy2⟩ := hm2.e_no
        have hyn : (e2 != 0) = true := by simpa using hy2
        have q22 : w2.cell? ⟨w.heap.size + 1, 2, none⟩ = some (.int .i64 e2) := cell_blk hm2.blk 2
        have HE := Lib.hid (HD.out.trans (show _ = Except.error e2 by rw [all_of HN.out (show Nx (runM cs (mm : Int).toNat 0) zs σ1 (xs.map (·.1)) (.error e2) by rw [Int.toNat_natCast]; exact HR.out)]))
        clear hm2 hy2 CO HR HTO HM
        go_wp2
        go_quiet (fail)
        go_wp2
        go_ret2
        exact ⟨.inr ⟨e2, HE.out, rfl⟩, HO2.out.drewN _⟩
    | ok kk =>
      obtain ⟨rfl, rfl⟩ := HM.out.e_ok
      have hat4 : at_ ≤ 4096 := HAR.out.2.elim (fun ⟨e, h⟩ => by cases h) id
      by_cases hlt : xs.length < mm
      · have hltz : (xs.length : Int) < (mm : Int) := by omega
        rcases hbh with ⟨hxe, hae⟩ | ⟨hxe, hbe⟩
        · have hi0 : ¬ (0 : Int) < (xs.length : Int) := by rw [hxe]; simp
          have HB := Lib.hid (show behindM (xs.map (·.1)) = 0 by rw [hxe]; rfl)
          subst hae
          clear hxe
          have cO := mqNum (w.heap.size + 1) w.heap.size (.slice ab zs.length cb) (.slice ap cs.length cp) cs zs (.ok kk) kk 0 wr 1 (by decide) (by decide) HM.out
          have CO := Lib.hid cO
          clear cO
          go_wp2_with (fail)
          refine CO.out.mono ?_
          rintro en w1 ⟨x, σa, rfl, hN1, hb1, hto1⟩
          simp only [Int.reducePow] at hb1
          have HTO1 := Lib.hid (HTO.out.then hto1)
          have HON1 := Lib.hid (show Only (fun j => j = w.heap.size + 1 ∨ j = w.heap.size ∨ wr.heap.size ≤ j) wr w1 from hto1.2.mono (fun _ h _ => h.elim .inl (fun h => .inr (.inl h))))
          obtain ⟨⟨ka, ea, hma⟩, _⟩ := hto1
          have HN1 := Lib.hid hN1
          have cO := mqBad (w.heap.size + 1) w.heap.size (.slice ab zs.length cb) (.slice ap cs.length cp) cs zs σa ka ea w1 (x != 255) hma
          have CO := Lib.hid cO
          clear cO hma hN1 HM
          go_wp2_with (fail)
          refine CO.out.mono ?_
          rintro en w2 ⟨rfl, hto2⟩
          obtain ⟨σb, hσb⟩ : ∃ σb, (if (x != 255) = true then failS 100 σa else σa) = σb := ⟨_, rfl⟩
          rw [hσb] at hto2
          have HSB := Lib.hid hσb
          have HTO2 := Lib.hid (HTO1.out.then hto2)
          have HON2 := Lib.hid (HON1.out.trans (hto2.2.mono (T := (fun j => j = w.heap.size + 1 ∨ j = w.heap.size ∨ wr.heap.size ≤ j)) (fun _ h _ => h.elim .inl (fun h => .inr (.inl h)))) (fun _ h _ => h))
          obtain ⟨⟨kb, eb, hmb⟩, _⟩ := hto2
          have cO := mqNum (w.heap.size + 1) w.heap.size (.slice ab zs.length cb) (.slice ap cs.length cp) cs zs σb kb eb w2 2 (by decide) (by decide) hmb
          have CO := Lib.hid cO
          clear cO hmb hσb HTO1 HON1
          go_wp2_with (fail)
          refine CO.out.mono ?_
          rintro en w3 ⟨s, σc, rfl, hN3, hb3, hto3⟩
          simp only [Int.reducePow] at hb3
          have HTO3 := Lib.hid (HTO2.out.then hto3)
          have HON3 := Lib.hid (HON2.out.trans (hto3.2.mono (T := (fun j => j = w.heap.size + 1 ∨ j = w.heap.size ∨ wr.heap.size ≤ j)) (fun _ h _ => h.elim .inl (fun h => .inr (.inl h)))) (fun _ h _ => h))
          obtain ⟨⟨kc, ec, hmc⟩, _⟩ := hto3
          have HN3 := Lib.hid hN3
          have HM3 := Lib.hid hmc
          clear hN3 hmc CO HTO2 HON2
          have hw1 : IntKind.i64.wrap s = s := IntWalk.i64_in _ (by omega)
          obtain ⟨a, ha⟩ : ∃ a, s = a := ⟨_, rfl⟩
          have HA0 := Lib.hid (show 0 ≤ a by omega)
          have HAV := Lib.hid (show behindM (xs.map (·.1)) + s = a by rw [HB.out, Int.zero_add]; exact ha)
          have cO := mqBad (w.heap.size + 1) w.heap.size (.slice ab zs.length cb) (.slice ap cs.length cp) cs zs σc kc ec w3 (decide ((4096 : Int) < a)) HM3.out
          have CO := Lib.hid cO
          clear cO HM3
          go_wp2_with (fail)
          try simp only [Int.zero_add]
          try rw [ha]
          refine CO.out.mono ?_
          rintro en w4 ⟨rfl, hto4⟩
          obtain ⟨σd, hσd⟩ : ∃ σd, (if decide ((4096 : Int) < a) = true then failS 100 σc else σc) = σd := ⟨_, rfl⟩
          rw [hσd] at hto4
          have HSD := Lib.hid hσd
          have hal := (Only.refl (fun _ => False) w4).alloc (.cells #[.int .i64 a, .slice none 0 0, .slice none 0 0, .bool false] 37)
          have htb := heap_alloc_new w4 (.cells #[.int .i64 a, .slice none 0 0, .slice none 0 0, .bool false] 37)
          have HTO4 := Lib.hid ((HTO3.out.then hto4).idle hal)
          have HON4 := Lib.hid ((HON3.out.trans (hto4.2.mono (T := (fun j => j = w.heap.size + 1 ∨ j = w.heap.size ∨ wr.heap.size ≤ j)) (fun _ h _ => h.elim .inl (fun h => .inr (.inl h)))) (fun _ h _ => h)).trans hal (fun _ h _ => h.elim))
          have HSW := Lib.hid (show wr.heap.size ≤ w4.heap.size from (HON3.out.trans (hto4.2.mono (T := (fun j => j = w.heap.size + 1 ∨ j = w.heap.size ∨ wr.heap.size ≤ j)) (fun _ h _ => h.elim .inl (fun h => .inr (.inl h)))) (fun _ h _ => h)).size)
          obtain ⟨⟨kd, ed, hmd⟩, _⟩ := hto4
          have HM4 := Lib.hid (hmd.idle hal)
          have HTB4 := Lib.hid htb
          have HS5 := Lib.hid (show (w4.alloc (.cells #[.int .i64 a, .slice none 0 0, .slice none 0 0, .bool false] 37)).heap.size = w4.heap.size + 1 by simp)
          clear hσd hal htb hmd CO HTO3 HON3
          have cO := mqKinds (w.heap.size + 1) w.heap.size (.slice ab zs.length cb) ap cs.length cp cs zs σd kd ed _ HM4.out
          have CO := Lib.hid cO
          clear cO HM4
          go_wp2_with (fail)
          refine CO.out.mono ?_
          rintro en w5 ⟨l1, vl1, σe, rfl, hN5, hto5, hrow5, hl5⟩
          obtain ⟨x1, n1, c1, rfl⟩ : ∃ x n c, vl1 = .slice x n c := by obtain ⟨x, c, e, -⟩ := hrow5.types.slice; exact ⟨_, _, _, e⟩
          rw [HS5.out] at hrow5
          have HTO5 := Lib.hid (HTO4.out.then hto5)
          have HON5 := Lib.hid (HON4.out.trans (hto5.2.mono (T := (fun j => j = w.heap.size + 1 ∨ j = w.heap.size ∨ wr.heap.size ≤ j)) (fun _ h _ => h.elim .inl (fun h => .inr (.inl h)))) (fun _ h _ => h))
          have htb5 := hto5.2.heap HTB4.out (by have := HSW.out; have := HWR.out; omega)
          obtain ⟨⟨ke, ee, hme⟩, _⟩ := hto5
          have HN5 := Lib.hid hN5
          have HM5 := Lib.hid hme
          have HROW5 := Lib.hid hrow5
          have HL5 := Lib.hid hl5
          obtain ⟨d0, d1, d2, d3⟩ := cells4P htb5
          obtain ⟨g0, g1, g2, g3⟩ := marks4P htb5
          have HTB5 := Lib.hid htb5
          clear hN5 hrow5 hme htb5 hl5 CO HTO4 HON4 HTB4 HS5
          obtain ⟨tb, htb⟩ : ∃ tb, w4.heap.size = tb := ⟨_, rfl⟩
          simp only [htb] at *
          clear htb
          have hst := (Only.refl (fun j => j = tb) w5).setCell (p := ⟨tb, 1, none⟩) (fun _ => rfl) (.slice x1 n1 c1)
          have HTO6 := Lib.hid (MqTo.newer HM0.out HTO5.out (hst.mono (T := fun j => ((w.alloc (.cells #[.slice ab zs.length cb, .int .i64 0] 52)).alloc (.cells #[.pointer (some ⟨w.heap.size, 0, none⟩), .slice ap cs.length cp, .int .i64 0] 54)).heap.size ≤ j) (fun j hj _ => by rw [HW0S.out]; have := HSW.out; have := HWR.out; omega)))
          have HON6 := Lib.hid (HON5.out.trans hst (fun j hj _ => .inr (.inr (by have := HSW.out; omega))))
          have htb6 := store1P 1 (.slice x1 n1 c1) HTB5.out
          simp only [List.setIfInBounds_toArray, List.set_cons_zero, List.set_cons_succ] at htb6
          have HTB6 := Lib.hid htb6
          have HROW6 := Lib.hid (HROW5.out.keep hst (fun j hj => by subst hj; exact Nat.lt_succ_self _))
          have HM6 := Lib.hid (HM5.out.only hst (by have := HSW.out; have := HWR.out; omega) (by have := HSW.out; have := HWR.out; omega) (fun j hj hz e => by have := Bytes.lt HB0.out j hj hz; have := HSW.out; have := HWR.out; omega) (fun j hj hc e => by have := Pool.lt HP0.out j hj hc; have := HSW.out; have := HWR.out; omega))
          have HTL := Lib.hid (show tb + 1 ≤ (w5.setCell ⟨tb, 1, none⟩ (.slice x1 n1 c1)).heap.size from heap_lt htb6)
          clear hst htb6 HTO5 HON5 HTB5 HROW5 HM5
          have cO := mqKinds (w.heap.size + 1) w.heap.size (.slice ab zs.length cb) ap cs.length cp cs zs σe ke ee _ HM6.out
          have CO := Lib.hid cO
          clear cO HM6
          go_wp2_with (fail)
          refine CO.out.mono ?_
          rintro en w7 ⟨l2, vl2, σf, rfl, hN7, hto7, hrow7, hl7⟩
          obtain ⟨x2, n2, c2, rfl⟩ : ∃ x n c, vl2 = .slice x n c := by obtain ⟨x, c, e, -⟩ := hrow7.types.slice; exact ⟨_, _, _, e⟩
          have HROW7b := Lib.hid (hrow7.base HTL.out)
          have HROW7 := Lib.hid (HROW6.out.keep hto7.2 (fun j hj => by have := HSW.out; have := HWR.out; omega))
          have HTO7 := Lib.hid (HTO6.out.then hto7)
          have HON7 := Lib.hid (HON6.out.trans (hto7.2.mono (T := (fun j => j = w.heap.size + 1 ∨ j = w.heap.size ∨ wr.heap.size ≤ j)) (fun _ h _ => h.elim .inl (fun h => .inr (.inl h)))) (fun _ h _ => h))
          have htb7 := hto7.2.heap HTB6.out (by have := HSW.out; have := HWR.out; omega)
          have HN7 := Lib.hid hN7
          obtain ⟨d0, d1, d2, d3⟩ := cells4P htb7
          obtain ⟨g0, g1, g2, g3⟩ := marks4P htb7
          have HTB7 := Lib.hid htb7
          clear hN7 hrow7 hto7 htb7 hl7 CO HTO6 HON6 HTB6 HROW6 HTL
          have hst := (Only.refl (fun j => j = tb) w7).setCell (p := ⟨tb, 2, none⟩) (fun _ => rfl) (.slice x2 n2 c2)
          have htb8 := store1P 2 (.slice x2 n2 c2) HTB7.out
          simp only [List.setIfInBounds_toArray, List.set_cons_zero, List.set_cons_succ] at htb8
          have HROW8 := Lib.hid (HROW7.out.keep hst (fun j hj => by subst hj; exact Nat.lt_succ_self _))
          have e1 : (w7.setCell ⟨tb, 2, none⟩ (.slice x2 n2 c2)).cell? ⟨tb, 1, none⟩ = some (Value.slice x1 n1 c1) := cell_blk htb8 1
          have HTB8 := Lib.hid htb8
          clear hst htb8
          have cO := refFresh _ l1 _ HROW8.out.types (by have := HL5.out; omega)
          have CO := Lib.hid cO
          clear cO
          go_wp2_with (fail)
          refine CO.out.mono ?_
          rintro en w8 ⟨rfl, rfl⟩
          generalize hfr : freshM l1 = fr at *
          have HFR := Lib.hid hfr
          have hst := ((Only.refl (fun j => j = tb) w7).setCell (p := ⟨tb, 2, none⟩) (fun _ => rfl) (.slice x2 n2 c2)).setCell (p := ⟨tb, 3, none⟩) (fun _ => rfl) (.bool fr)
          have HTO9 := Lib.hid (MqTo.newer HM0.out HTO7.out (hst.mono (T := fun j => ((w.alloc (.cells #[.slice ab zs.length cb, .int .i64 0] 52)).alloc (.cells #[.pointer (some ⟨w.heap.size, 0, none⟩), .slice ap cs.length cp, .int .i64 0] 54)).heap.size ≤ j) (fun j hj _ => by rw [HW0S.out]; have := HSW.out; have := HWR.out; omega)))
          have HON9 := Lib.hid (HON7.out.trans hst (fun j hj _ => .inr (.inr (by have := HSW.out; omega))))
          have HROW9 := Lib.hid (HROW7.out.keep hst (fun j hj => by subst hj; exact Nat.lt_succ_self _))
          have HROW9b := Lib.hid (HROW7b.out.keep hst (fun j hj => by subst hj; exact Nat.lt_succ_self _))
          have HTL9 := Lib.hid (show tb < ((w7.setCell ⟨tb, 2, none⟩ (.slice x2 n2 c2)).setCell ⟨tb, 3, none⟩ (.bool fr)).heap.size by have := heap_lt HTB7.out; simp; omega)
          have HA9 := Lib.hid (at_ok HSD.out HN5.out HN7.out)
          have HE9 := Lib.hid (nx_map (cs := cs) (f := behindM (xs.map (·.1))) HN1.out HSB.out HN3.out HAV.out HSD.out HN5.out HN7.out)
          clear hst hfr CO HTO7 HON7 HTB7 HTB8 HROW7 HROW7b HROW8 HN1 HN3 HN5 HN7 HSB HSD
          rw [HFR.out] at HE9
          obtain ⟨w9, hw9⟩ : ∃ w9, (w7.setCell ⟨tb, 2, none⟩ (.slice x2 n2 c2)).setCell ⟨tb, 3, none⟩ (.bool fr) = w9 := ⟨_, rfl⟩
          rw [hw9] at HTO9 HON9 HROW9 HROW9b HTL9
          have hal := (Only.refl (fun _ => False) w9).alloc (.cells #[.int .i64 a, .slice x1 n1 c1, .slice x2 n2 c2, .bool fr] 37)
          have HM10 := Lib.hid ((HMX.out.below HON9.out (fun j hj => by have := HWR.out; omega)).idle hal)
          have HTO10 := Lib.hid (HTO9.out.idle hal)
          have HR1 := Lib.hid ((HROW9.out.base (show w.heap.size + 2 ≤ tb + 1 by have := HSW.out; have := HWR.out; omega)).only hal (fun _ _ h => h))
          have HR2 := Lib.hid ((HROW9b.out.base (show w.heap.size + 2 ≤ tb + 1 by have := HSW.out; have := HWR.out; omega)).only hal (fun _ _ h => h))
          have HN1 := Lib.hid (show ∀ j, (Value.slice x1 n1 c1).ownBlock = some j → (Value.slice al xs.length cl).ownBlock ≠ some j from fun j hj e => by have := (HROW9.out.ge j hj).1; have := (HMX.out.rg.ge j e).2; have := HSW.out; omega)
          have HN2 := Lib.hid (show ∀ j, (Value.slice x2 n2 c2).ownBlock = some j → (Value.slice al xs.length cl).ownBlock ≠ some j from fun j hj e => by have := (HROW9b.out.ge j hj).1; have := (HMX.out.rg.ge j e).2; have := HSW.out; omega)
          have HSW10 := Lib.hid (show w.heap.size + 2 ≤ (w9.alloc (.cells #[.int .i64 a, .slice x1 n1 c1, .slice x2 n2 c2, .bool fr] 37)).heap.size from by have := HTL9.out; have := HSW.out; have := HWR.out; simp; omega)
          have HSRC := Lib.hid (Src.map (w := w9) (m := w7.heap.size) (⟨a, l1, l2, fr⟩, Value.slice x1 n1 c1, Value.slice x2 n2 c2) rfl rfl (by rw [← hw9]; simp))
          have HGE := Lib.hid (HMX.out.rg.ge)
          clear hal HTO9 HON9 HROW9 HROW9b HTL9
          simp only [← hw9] at *
          clear hw9
          go_wp2_with (at_builtin; go_loud (refine wpList_append_src rfl (.tmp 70) (.tmp 72) 24 rfl 37 i0 (.agg #[.int .i64 0, .slice none 0 0, .slice none 0 0, .bool false]) 4 64 Tryd.underlying24 hi hz0 hz1 hz2 rfl (by decide) (w.heap.size + 2) (.slice al xs.length cl) xs.length (xs.flatMap cellsMp) rfl (by exact HM10.out.rg) (by exact HSW10.out) (.slice (some ⟨w7.heap.size, 0, none⟩) 1 1) 1 (cellsMp (⟨a, l1, l2, fr⟩, Value.slice x1 n1 c1, Value.slice x2 n2 c2)) rfl (by exact HSRC.out) (by unfold maxLen; omega) (by omega) ?_); intro v' w11 hown hgrow hnew; obtain ⟨hm5, hos⟩ := HM10.out.push (x := (⟨a, l1, l2, fr⟩, Value.slice x1 n1 c1, Value.slice x2 n2 c2)) HR1.out HR2.out HN1.out HN2.out hown hgrow hnew; have HM11 := Lib.hid hm5; have HTO11 := Lib.hid (MqTo.newer HM0.out HTO10.out (hos.mono (T := fun j => ((w.alloc (.cells #[.slice ab zs.length cb, .int .i64 0] 52)).alloc (.cells #[.pointer (some ⟨w.heap.size, 0, none⟩), .slice ap cs.length cp, .int .i64 0] 54)).heap.size ≤ j) (fun j hj _ => by rw [HW0S.out]; exact (HGE.out _ hj).1))); clear hm5 hos hown hgrow hnew)
          go_roundw
          case rel => exact ⟨xs ++ [(⟨a, l1, l2, fr⟩, Value.slice x1 n1 c1, Value.slice x2 n2 c2)], σf, a, by simp, rfl, by simp; omega, by rw [List.map_append]; exact HRS.out.more (by rw [List.length_map]; exact hlt) HE9.out, HM11.out, HTO11.out, ⟨HA0.out, HA9.out⟩, by rw [List.map_append, show List.map (fun x : MapX => x.1) [((⟨a, l1, l2, fr⟩ : MapV), Value.slice x1 n1 c1, Value.slice x2 n2 c2)] = [⟨a, l1, l2, fr⟩] from rfl, behindM_snoc]; exact .inr ⟨by simp, rfl⟩⟩
          case measure => simp [intOf]; omega
        · have hi0 : (0 : Int) < (xs.length : Int) := by have := List.length_pos_iff.2 hxe; omega
          have HB := Lib.hid hbe
          clear hxe hbe
          have cO := mqNum (w.heap.size + 1) w.heap.size (.slice ab zs.length cb) (.slice ap cs.length cp) cs zs (.ok kk) kk 0 wr 1 (by decide) (by decide) HM.out
          have CO := Lib.hid cO
          clear cO
          go_wp2_with (fail)
          refine CO.out.mono ?_
          rintro en w1 ⟨x, σa, rfl, hN1, hb1, hto1⟩
          simp only [Int.reducePow] at hb1
          have HTO1 := Lib.hid (HTO.out.then hto1)
          have HON1 := Lib.hid (show Only (fun j => j = w.heap.size + 1 ∨ j = w.heap.size ∨ wr.heap.size ≤ j) wr w1 from hto1.2.mono (fun _ h _ => h.elim .inl (fun h => .inr (.inl h))))
          obtain ⟨⟨ka, ea, hma⟩, _⟩ := hto1
          have HN1 := Lib.hid hN1
          have cO := mqBad (w.heap.size + 1) w.heap.size (.slice ab zs.length cb) (.slice ap cs.length cp) cs zs σa ka ea w1 (x != 255) hma
          have CO := Lib.hid cO
          clear cO hma hN1 HM
          go_wp2_with (fail)
          refine CO.out.mono ?_
          rintro en w2 ⟨rfl, hto2⟩
          obtain ⟨σb, hσb⟩ : ∃ σb, (if (x != 255) = true then failS 100 σa else σa) = σb := ⟨_, rfl⟩
          rw [hσb] at hto2
          have HSB := Lib.hid hσb
          have HTO2 := Lib.hid (HTO1.out.then hto2)
          have HON2 := Lib.hid (HON1.out.trans (hto2.2.mono (T := (fun j => j = w.heap.size + 1 ∨ j = w.heap.size ∨ wr.heap.size ≤ j)) (fun _ h _ => h.elim .inl (fun h => .inr (.inl h)))) (fun _ h _ => h))
          obtain ⟨⟨kb, eb, hmb⟩, _⟩ := hto2
          have cO := mqNum (w.heap.size + 1) w.heap.size (.slice ab zs.length cb) (.slice ap cs.length cp) cs zs σb kb eb w2 2 (by decide) (by decide) hmb
          have CO := Lib.hid cO
          clear cO hmb hσb HTO1 HON1
          go_wp2_with (fail)
          refine CO.out.mono ?_
          rintro en w3 ⟨s, σc, rfl, hN3, hb3, hto3⟩
          simp only [Int.reducePow] at hb3
          have HTO3 := Lib.hid (HTO2.out.then hto3)
          have HON3 := Lib.hid (HON2.out.trans (hto3.2.mono (T := (fun j => j = w.heap.size + 1 ∨ j = w.heap.size ∨ wr.heap.size ≤ j)) (fun _ h _ => h.elim .inl (fun h => .inr (.inl h)))) (fun _ h _ => h))
          obtain ⟨⟨kc, ec, hmc⟩, _⟩ := hto3
          have HN3 := Lib.hid hN3
          have HM3 := Lib.hid hmc
          clear hN3 hmc CO HTO2 HON2
          have hw1 : IntKind.i64.wrap (s + 1) = s + 1 := IntWalk.i64_in _ (by omega)
          obtain ⟨a, ha⟩ : ∃ a, at_ + (s + 1) = a := ⟨_, rfl⟩
          have hw2 : IntKind.i64.wrap a = a := IntWalk.i64_in _ (by have := HAR.out.1; omega)
          have HA0 := Lib.hid (show 0 ≤ a by have := HAR.out.1; omega)
          have HAV := Lib.hid (show behindM (xs.map (·.1)) + s = a by rw [HB.out]; omega)
          have cO := mqBad (w.heap.size + 1) w.heap.size (.slice ab zs.length cb) (.slice ap cs.length cp) cs zs σc kc ec w3 (decide ((4096 : Int) < a)) HM3.out
          have CO := Lib.hid cO
          clear cO HM3
          go_wp2_with (fail)
          try rw [ha]
          refine CO.out.mono ?_
          rintro en w4 ⟨rfl, hto4⟩
          obtain ⟨σd, hσd⟩ : ∃ σd, (if decide ((4096 : Int) < a) = true then failS 100 σc else σc) = σd := ⟨_, rfl⟩
          rw [hσd] at hto4
          have HSD := Lib.hid hσd
          have hal := (Only.refl (fun _ => False) w4).alloc (.cells #[.int .i64 a, .slice none 0 0, .slice none 0 0, .bool false] 37)
          have htb := heap_alloc_new w4 (.cells #[.int .i64 a, .slice none 0 0, .slice none 0 0, .bool false] 37)
          have HTO4 := Lib.hid ((HTO3.out.then hto4).idle hal)
          have HON4 := Lib.hid ((HON3.out.trans (hto4.2.mono (T := (fun j => j = w.heap.size + 1 ∨ j = w.heap.size ∨ wr.heap.size ≤ j)) (fun _ h _ => h.elim .inl (fun h => .inr (.inl h)))) (fun _ h _ => h)).trans hal (fun _ h _ => h.elim))
          have HSW := Lib.hid (show wr.heap.size ≤ w4.heap.size from (HON3.out.trans (hto4.2.mono (T := (fun j => j = w.heap.size + 1 ∨ j = w.heap.size ∨ wr.heap.size ≤ j)) (fun _ h _ => h.elim .inl (fun h => .inr (.inl h)))) (fun _ h _ => h)).size)
          obtain ⟨⟨kd, ed, hmd⟩, _⟩ := hto4
          have HM4 := Lib.hid (hmd.idle hal)
          have HTB4 := Lib.hid htb
          have HS5 := Lib.hid (show (w4.alloc (.cells #[.int .i64 a, .slice none 0 0, .slice none 0 0, .bool false] 37)).heap.size = w4.heap.size + 1 by simp)
          clear hσd hal htb hmd CO HTO3 HON3
          have cO := mqKinds (w.heap.size + 1) w.heap.size (.slice ab zs.length cb) ap cs.length cp cs zs σd kd ed _ HM4.out
          have CO := Lib.hid cO
          clear cO HM4
          go_wp2_with (fail)
          refine CO.out.mono ?_
          rintro en w5 ⟨l1, vl1, σe, rfl, hN5, hto5, hrow5, hl5⟩
          obtain ⟨x1, n1, c1, rfl⟩ : ∃ x n c, vl1 = .slice x n c := by obtain ⟨x, c, e, -⟩ := hrow5.types.slice; exact ⟨_, _, _, e⟩
          rw [HS5.out] at hrow5
          have HTO5 := Lib.hid (HTO4.out.then hto5)
          have HON5 := Lib.hid (HON4.out.trans (hto5.2.mono (T := (fun j => j = w.heap.size + 1 ∨ j = w.heap.size ∨ wr.heap.size ≤ j)) (fun _ h _ => h.elim .inl (fun h => .inr (.inl h)))) (fun _ h _ => h))
          have htb5 := hto5.2.heap HTB4.out (by have := HSW.out; have := HWR.out; omega)
          obtain ⟨⟨ke, ee, hme⟩, _⟩ := hto5
          have HN5 := Lib.hid hN5
          have HM5 := Lib.hid hme
          have HROW5 := Lib.hid hrow5
          have HL5 := Lib.hid hl5
          obtain ⟨d0, d1, d2, d3⟩ := cells4P htb5
          obtain ⟨g0, g1, g2, g3⟩ := marks4P htb5
          have HTB5 := Lib.hid htb5
          clear hN5 hrow5 hme htb5 hl5 CO HTO4 HON4 HTB4 HS5
          obtain ⟨tb, htb⟩ : ∃ tb, w4.heap.size = tb := ⟨_, rfl⟩
          simp only [htb] at *
          clear htb
          have hst := (Only.refl (fun j => j = tb) w5).setCell (p := ⟨tb, 1, none⟩) (fun _ => rfl) (.slice x1 n1 c1)
          have HTO6 := Lib.hid (MqTo.newer HM0.out HTO5.out (hst.mono (T := fun j => ((w.alloc (.cells #[.slice ab zs.length cb, .int .i64 0] 52)).alloc (.cells #[.pointer (some ⟨w.heap.size, 0, none⟩), .slice ap cs.length cp, .int .i64 0] 54)).heap.size ≤ j) (fun j hj _ => by rw [HW0S.out]; have := HSW.out; have := HWR.out; omega)))
          have HON6 := Lib.hid (HON5.out.trans hst (fun j hj _ => .inr (.inr (by have := HSW.out; omega))))
          have htb6 := store1P 1 (.slice x1 n1 c1) HTB5.out
          simp only [List.setIfInBounds_toArray, List.set_cons_zero, List.set_cons_succ] at htb6
          have HTB6 := Lib.hid htb6
          have HROW6 := Lib.hid (HROW5.out.keep hst (fun j hj => by subst hj; exact Nat.lt_succ_self _))
          have HM6 := Lib.hid (HM5.out.only hst (by have := HSW.out; have := HWR.out; omega) (by have := HSW.out; have := HWR.out; omega) (fun j hj hz e => by have := Bytes.lt HB0.out j hj hz; have := HSW.out; have := HWR.out; omega) (fun j hj hc e => by have := Pool.lt HP0.out j hj hc; have := HSW.out; have := HWR.out; omega))
          have HTL := Lib.hid (show tb + 1 ≤ (w5.setCell ⟨tb, 1, none⟩ (.slice x1 n1 c1)).heap.size from heap_lt htb6)
          clear hst htb6 HTO5 HON5 HTB5 HROW5 HM5
          have cO := mqKinds (w.heap.size + 1) w.heap.size (.slice ab zs.length cb) ap cs.length cp cs zs σe ke ee _ HM6.out
          have CO := Lib.hid cO
          clear cO HM6
          go_wp2_with (fail)
          refine CO.out.mono ?_
          rintro en w7 ⟨l2, vl2, σf, rfl, hN7, hto7, hrow7, hl7⟩
          obtain ⟨x2, n2, c2, rfl⟩ : ∃ x n c, vl2 = .slice x n c := by obtain ⟨x, c, e, -⟩ := hrow7.types.slice; exact ⟨_, _, _, e⟩
          have HROW7b := Lib.hid (hrow7.base HTL.out)
          have HROW7 := Lib.hid (HROW6.out.keep hto7.2 (fun j hj => by have := HSW.out; have := HWR.out; omega))
          have HTO7 := Lib.hid (HTO6.out.then hto7)
          have HON7 := Lib.hid (HON6.out.trans (hto7.2.mono (T := (fun j => j = w.heap.size + 1 ∨ j = w.heap.size ∨ wr.heap.size ≤ j)) (fun _ h _ => h.elim .inl (fun h => .inr (.inl h)))) (fun _ h _ => h))
          have htb7 := hto7.2.heap HTB6.out (by have := HSW.out; have := HWR.out; omega)
          have HN7 := Lib.hid hN7
          obtain ⟨d0, d1, d2, d3⟩ := cells4P htb7
          obtain ⟨g0, g1, g2, g3⟩ := marks4P htb7
          have HTB7 := Lib.hid htb7
          clear hN7 hrow7 hto7 htb7 hl7 CO HTO6 HON6 HTB6 HROW6 HTL
          have hst := (Only.refl (fun j => j = tb) w7).setCell (p := ⟨tb, 2, none⟩) (fun _ => rfl) (.slice x2 n2 c2)
          have htb8 := store1P 2 (.slice x2 n2 c2) HTB7.out
          simp only [List.setIfInBounds_toArray, List.set_cons_zero, List.set_cons_succ] at htb8
          have HROW8 := Lib.hid (HROW7.out.keep hst (fun j hj => by subst hj; exact Nat.lt_succ_self _))
          have e1 : (w7.setCell ⟨tb, 2, none⟩ (.slice x2 n2 c2)).cell? ⟨tb, 1, none⟩ = some (Value.slice x1 n1 c1) := cell_blk htb8 1
          have HTB8 := Lib.hid htb8
          clear hst htb8
          have cO := refFresh _ l1 _ HROW8.out.types (by have := HL5.out; omega)
          have CO := Lib.hid cO
          clear cO
          go_wp2_with (fail)
          refine CO.out.mono ?_
          rintro en w8 ⟨rfl, rfl⟩
          generalize hfr : freshM l1 = fr at *
          have HFR := Lib.hid hfr
          have hst := ((Only.refl (fun j => j = tb) w7).setCell (p := ⟨tb, 2, none⟩) (fun _ => rfl) (.slice x2 n2 c2)).setCell (p := ⟨tb, 3, none⟩) (fun _ => rfl) (.bool fr)
          have HTO9 := Lib.hid (MqTo.newer HM0.out HTO7.out (hst.mono (T := fun j => ((w.alloc (.cells #[.slice ab zs.length cb, .int .i64 0] 52)).alloc (.cells #[.pointer (some ⟨w.heap.size, 0, none⟩), .slice ap cs.length cp, .int .i64 0] 54)).heap.size ≤ j) (fun j hj _ => by rw [HW0S.out]; have := HSW.out; have := HWR.out; omega)))
          have HON9 := Lib.hid (HON7.out.trans hst (fun j hj _ => .inr (.inr (by have := HSW.out; omega))))
          have HROW9 := Lib.hid (HROW7.out.keep hst (fun j hj => by subst hj; exact Nat.lt_succ_self _))
          have HROW9b := Lib.hid (HROW7b.out.keep hst (fun j hj => by subst hj; exact Nat.lt_succ_self _))
          have HTL9 := Lib.hid (show tb < ((w7.setCell ⟨tb, 2, none⟩ (.slice x2 n2 c2)).setCell ⟨tb, 3, none⟩ (.bool fr)).heap.size by have := heap_lt HTB7.out; simp; omega)
          have HA9 := Lib.hid (at_ok HSD.out HN5.out HN7.out)
          have HE9 := Lib.hid (nx_map (cs := cs) (f := behindM (xs.map (·.1))) HN1.out HSB.out HN3.out HAV.out HSD.out HN5.out HN7.out)
          clear hst hfr CO HTO7 HON7 HTB7 HTB8 HROW7 HROW7b HROW8 HN1 HN3 HN5 HN7 HSB HSD
          rw [HFR.out] at HE9
          obtain ⟨w9, hw9⟩ : ∃ w9, (w7.setCell ⟨tb, 2, none⟩ (.slice x2 n2 c2)).setCell ⟨tb, 3, none⟩ (.bool fr) = w9 := ⟨_, rfl⟩
          rw [hw9] at HTO9 HON9 HROW9 HROW9b HTL9
          have hal := (Only.refl (fun _ => False) w9).alloc (.cells #[.int .i64 a, .slice x1 n1 c1, .slice x2 n2 c2, .bool fr] 37)
          have HM10 := Lib.hid ((HMX.out.below HON9.out (fun j hj => by have := HWR.out; omega)).idle hal)
          have HTO10 := Lib.hid (HTO9.out.idle hal)
          have HR1 := Lib.hid ((HROW9.out.base (show w.heap.size + 2 ≤ tb + 1 by have := HSW.out; have := HWR.out; omega)).only hal (fun _ _ h => h))
          have HR2 := Lib.hid ((HROW9b.out.base (show w.heap.size + 2 ≤ tb + 1 by have := HSW.out; have := HWR.out; omega)).only hal (fun _ _ h => h))
          have HN1 := Lib.hid (show ∀ j, (Value.slice x1 n1 c1).ownBlock = some j → (Value.slice al xs.length cl).ownBlock ≠ some j from fun j hj e => by have := (HROW9.out.ge j hj).1; have := (HMX.out.rg.ge j e).2; have := HSW.out; omega)
          have HN2 := Lib.hid (show ∀ j, (Value.slice x2 n2 c2).ownBlock = some j → (Value.slice al xs.length cl).ownBlock ≠ some j from fun j hj e => by have := (HROW9b.out.ge j hj).1; have := (HMX.out.rg.ge j e).2; have := HSW.out; omega)
          have HSW10 := Lib.hid (show w.heap.size + 2 ≤ (w9.alloc (.cells #[.int .i64 a, .slice x1 n1 c1, .slice x2 n2 c2, .bool fr] 37)).heap.size from by have := HTL9.out; have := HSW.out; have := HWR.out; simp; omega)
          have HSRC := Lib.hid (Src.map (w := w9) (m := w7.heap.size) (⟨a, l1, l2, fr⟩, Value.slice x1 n1 c1, Value.slice x2 n2 c2) rfl rfl (by rw [← hw9]; simp))
          have HGE := Lib.hid (HMX.out.rg.ge)
          clear hal HTO9 HON9 HROW9 HROW9b HTL9
          simp only [← hw9] at *
          clear hw9
          go_wp2_with (at_builtin; go_loud (refine wpList_append_src rfl (.tmp 70) (.tmp 72) 24 rfl 37 i0 (.agg #[.int .i64 0, .slice none 0 0, .slice none 0 0, .bool false]) 4 64 Tryd.underlying24 hi hz0 hz1 hz2 rfl (by decide) (w.heap.size + 2) (.slice al xs.length cl) xs.length (xs.flatMap cellsMp) rfl (by exact HM10.out.rg) (by exact HSW10.out) (.slice (some ⟨w7.heap.size, 0, none⟩) 1 1) 1 (cellsMp (⟨a, l1, l2, fr⟩, Value.slice x1 n1 c1, Value.slice x2 n2 c2)) rfl (by exact HSRC.out) (by unfold maxLen; omega) (by omega) ?_); intro v' w11 hown hgrow hnew; obtain ⟨hm5, hos⟩ := HM10.out.push (x := (⟨a, l1, l2, fr⟩, Value.slice x1 n1 c1, Value.slice x2 n2 c2)) HR1.out HR2.out HN1.out HN2.out hown hgrow hnew; have HM11 := Lib.hid hm5; have HTO11 := Lib.hid (MqTo.newer HM0.out HTO10.out (hos.mono (T := fun j => ((w.alloc (.cells #[.slice ab zs.length cb, .int .i64 0] 52)).alloc (.cells #[.pointer (some ⟨w.heap.size, 0, none⟩), .slice ap cs.length cp, .int .i64 0] 54)).heap.size ≤ j) (fun j hj _ => by rw [HW0S.out]; exact (HGE.out _ hj).1))); clear hm5 hos hown hgrow hnew)
          go_roundw
          case rel => exact ⟨xs ++ [(⟨a, l1, l2, fr⟩, Value.slice x1 n1 c1, Value.slice x2 n2 c2)], σf, a, by simp, rfl, by simp; omega, by rw [List.map_append]; exact HRS.out.more (by rw [List.length_map]; exact hlt) HE9.out, HM11.out, HTO11.out, ⟨HA0.out, HA9.out⟩, by rw [List.map_append, show List.map (fun x : MapX => x.1) [((⟨a, l1, l2, fr⟩ : MapV), Value.slice x1 n1 c1, Value.slice x2 n2 c2)] = [⟨a, l1, l2, fr⟩] from rfl, behindM_snoc]; exact .inr ⟨by simp, rfl⟩⟩
          case measure => simp [intOf]; omega
      · have hltz : ¬ (xs.length : Int) < (mm : Int) := by omega
        have q0 : wr.cell? ⟨w.heap.size + 1, 0, none⟩ = some (.pointer (some ⟨w.heap.size, 0, none⟩)) := cell_blk HM.out.blk 0
        have r1 : wr.cell? ⟨w.heap.size, 1, none⟩ = some (.int .i64 kk) := cell_blk HM.out.rf.blk 1
        have cO := mqBad (w.heap.size + 1) w.heap.size (.slice ab zs.length cb) (.slice ap cs.length cp) cs zs (.ok kk) kk 0 wr (((kk : Nat) : Int) != ((zs.length : Nat) : Int)) HM.out
        have CO := Lib.hid cO
        have HR := Lib.hid (show Nx (runM cs mm 0) zs σ1 (xs.map (·.1)) (.ok kk) from HRS.out.done (.inr (by rw [List.length_map]; omega)))
        clear cO HRS
        go_wp2_with (fail)
        refine CO.out.mono ?_
        rintro en w2 ⟨rfl, hto2⟩
        have HM2 := Lib.hid (HMX.out.keep hto2.2 (fun j hj => by omega))
        have HO2 := Lib.hid (show Only (fun _ => False) w w2 from (((HO0.out.mono (T := fun j => j = w.heap.size + 1 ∨ j = w.heap.size) (fun _ h _ => h.elim)).trans HTO.out.2 (fun _ h _ => h)).trans hto2.2 (fun _ h _ => h)).mono (fun j hj hl => by omega))
        by_cases hk : kk = zs.length
        · rw [show (((kk : Nat) : Int) != ((zs.length : Nat) : Int)) = false by simp [hk], if_neg (by decide)] at hto2
          obtain ⟨⟨k2, e2, hm2⟩, _⟩ := hto2
          obtain ⟨rfl, rfl⟩ := hm2.e_ok
          have q22 : w2.cell? ⟨w.heap.size + 1, 2, none⟩ = some (.int .i64 0) := cell_blk hm2.blk 2
          have HE := Lib.hid (HD.out.trans (show _ = Except.ok (xs.map (·.1)) by rw [all_of HN.out (show Nx (runM cs (mm : Int).toNat 0) zs σ1 (xs.map (·.1)) (.ok kk) by rw [Int.toNat_natCast]; exact HR.out)]; simp only [hk, if_true]))
          have HXL := Lib.hid (show xs.length ≤ 65535 by omega)
          clear hm2 CO HR HTO HM
          go_wp2
          go_ret2
          exact ⟨.inl ⟨xs, _, HE.out, rfl, HM2.out.base (by omega), HXL.out⟩, HO2.out⟩
        · rw [show (((kk : Nat) : Int) != ((zs.length : Nat) : Int)) = true by rw [bne_iff_ne]; omega, if_pos rfl] at hto2
          obtain ⟨⟨k2, e2, hm2⟩, _⟩ := hto2
          obtain ⟨rfl, hy2⟩ := (show Mq w2 (w.heap.size + 1) w.heap.size (.slice ab zs.length cb) (.slice ap cs.length cp) cs zs (.error 100) k2 e2 from hm2).e_no
          have q22 : w2.cell? ⟨w.heap.size + 1, 2, none⟩ = some (.int .i64 100) := cell_blk hm2.blk 2
          have HE := Lib.hid (HD.out.trans (show _ = Except.error 100 by rw [all_of HN.out (show Nx (runM cs (mm : Int).toNat 0) zs σ1 (xs.map (·.1)) (.ok kk) by rw [Int.toNat_natCast]; exact HR.out)]; simp only [hk, if_false]))
          clear hm2 hy2 CO HR HTO HM
          go_wp2
          go_quiet (fail)
          go_wp2
          go_ret2
          exact ⟨.inr ⟨100, HE.out, rfl⟩, HO2.out.drewN _⟩
end Go.Proofs.YtadgbkjjeigpjaaDoor
