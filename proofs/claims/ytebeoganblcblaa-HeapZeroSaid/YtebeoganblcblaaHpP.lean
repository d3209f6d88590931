/- The program's heap, by what is in it. Condition: it is there. -/
import Derived.Test.YtebeoganblcblaaHpPf
namespace Go.Proofs.Ytebeoganblcblaa
open Go.RowKit
set_option linter.unusedVariables false
set_option linter.unusedSimpArgs false

def HeapP (w : World) (G : Nat → Prop) (p : Nat) (os : List ObjV) (most : Int) : Prop := ∃ L V, HeapQ w G p L V (spread 0 os) (allVs os) most ∧ ∀ x ∈ os, x.vs.length ≤ 1024
theorem HeapP.only {w w' : World} {G S : Nat → Prop} {p : Nat} {os : List ObjV} {most : Int} (h : HeapP w G p os most) (ho : Only S w w') (hs : ∀ k, G k → ¬ S k) : HeapP w' G p os most := by
  obtain ⟨L, V, h1, h2⟩ := h
  exact ⟨L, V, h1.only ho hs, h2⟩
theorem HeapP.lt {w : World} {G : Nat → Prop} {p : Nat} {os : List ObjV} {most : Int} (h : HeapP w G p os most) : ∀ k, G k → k < w.heap.size := by
  obtain ⟨L, V, h1, h2⟩ := h
  exact h1.lt
theorem HeapP.few {w : World} {G : Nat → Prop} {p : Nat} {os : List ObjV} {most : Int} (h : HeapP w G p os most) : os.length ≤ 1024 ∧ ∀ x ∈ os, x.vs.length ≤ 1024 := by
  obtain ⟨L, V, h1, h2⟩ := h
  exact ⟨by have := h1.few; rwa [spread_len] at this, h2⟩
theorem progNew14 (m : Int) (h0 : 0 ≤ m) (hm : m ≤ 1024) (w : World) : Calls Try.prog 9 #[.int .i64 m] w fun e w' =>
    ∃ p G, e = .returned (.tuple #[.pointer (some ⟨p, 0, none⟩), .int .i64 0]) ∧ HeapP w' G p [] m ∧ Only (fun _ => False) w w' ∧ ∀ k, G k → w.heap.size ≤ k :=
  (progNewQ m h0 hm w).mono fun e w' ⟨h1, h2, h3⟩ => ⟨_, _, h1, ⟨_, _, h2, fun x hx => by cases hx⟩, h3, fun k hk => by subst hk; exact Nat.le_refl _⟩
theorem cut_right (os : List ObjV) : ∀ i, i < (spread 0 os).length → ((spread 0 os).getD i default).a ≤ ((spread 0 os).getD i default).b ∧ ((spread 0 os).getD i default).b ≤ (allVs os).length := fun i hi => by
  rw [spread_len] at hi
  rw [spread_at 0 os i hi, Nat.zero_add]
  exact ⟨Nat.le_add_right _ _, cut_end os i hi⟩
theorem find_type (os : List ObjV) (r : Int) : (findZ14 (spread 0 os) r).1.t = (typeZ14 os r).1 ∧ (findZ14 (spread 0 os) r).2 = (typeZ14 os r).2 ∧ ((findZ14 (spread 0 os) r).1.b : Int) - ((findZ14 (spread 0 os) r).1.a : Int) = lenZ14 os r ∧ (findZ14 (spread 0 os) r).1.a ≤ (findZ14 (spread 0 os) r).1.b ∧ (findZ14 (spread 0 os) r).1.b ≤ (allVs os).length := by
  unfold findZ14 typeZ14 lenZ14 obZ
  rw [spread_len]
  by_cases hr : isOb os.length r = true
  · rw [if_pos hr, if_pos hr, if_pos hr]
    have hr1 : 1 ≤ r ∧ r ≤ (os.length : Int) := by simpa [isOb] using hr
    have hi : r.toNat - 1 < os.length := by omega
    rw [spread_at 0 os _ hi, Nat.zero_add]
    exact ⟨rfl, rfl, by simp only; omega, Nat.le_add_right _ _, cut_end os _ hi⟩
  · rw [if_neg hr, if_neg hr, if_neg hr]
    exact ⟨rfl, rfl, rfl, Nat.le_refl _, Nat.zero_le _⟩
theorem place_get (os : List ObjV) (r i : Int) : placeE (spread 0 os) r i = (getZ os r i).2 ∧ (placeE (spread 0 os) r i = 0 → atP (spread 0 os) (allVs os) r i = (getZ os r i).1) ∧ (placeE (spread 0 os) r i ≠ 0 → (getZ os r i).1 = default) ∧
    (placeE (spread 0 os) r i = 0 → ∀ v, spread 0 (putZ os r i v) = spread 0 os ∧ allVs (putZ os r i v) = (allVs os).set (((spread 0 os).getD (r.toNat - 1) default).a + i.toNat) v ∧ r.toNat - 1 < os.length) := by
  unfold placeE getZ atP putZ obZ
  rw [spread_len]
  by_cases hr : isOb os.length r = true
  · rw [if_pos hr, if_pos hr]
    have hr1 : 1 ≤ r ∧ r ≤ (os.length : Int) := by simpa [isOb] using hr
    have hi : r.toNat - 1 < os.length := by omega
    rw [spread_at 0 os _ hi, Nat.zero_add]
    simp only
    have e : ((offZ os (r.toNat - 1) + (os.getD (r.toNat - 1) default).vs.length : Nat) : Int) - ((offZ os (r.toNat - 1) : Nat) : Int) = ((os.getD (r.toNat - 1) default).vs.length : Int) := by omega
    rw [e]
    by_cases hx : 0 ≤ i ∧ i < ((os.getD (r.toNat - 1) default).vs.length : Int)
    · rw [if_pos hx, if_pos hx]
      have hj : i.toNat < (os.getD (r.toNat - 1) default).vs.length := by omega
      exact ⟨rfl, fun _ => (cut_at os _ _ hi hj).2, fun h => absurd rfl h, fun _ v => ⟨spread_set 0 os _ _ hi (by rw [List.length_set]), allVs_set os _ _ v hi hj, hi⟩⟩
    · rw [if_neg hx, if_neg hx]
      exact ⟨rfl, (fun h => by cases h), fun _ => rfl, (fun h => by cases h)⟩
  · rw [if_neg hr, if_neg hr]
    exact ⟨rfl, (fun h => by cases h), fun _ => rfl, (fun h => by cases h)⟩
/-- What stays whatever is written into some blocks lies in none of them. -/
theorem far_of_stay {w : World} {G : Nat → Prop} {dv : Value} {ts : List TypeV} (ht : ∀ W, Only G w W → Types W dv ts) : ∀ k, dv.ownBlock = some k → ts ≠ [] → ¬ G k := by
  intro k hk hne hg
  have hW : Only G w { w with heap := w.heap.setIfInBounds k (.cells #[] 0 (0, 0)) } := ⟨rfl, rfl, rfl, by simp, fun i hi hn => by
    have : k ≠ i := fun e => hn (e ▸ hg)
    simp [Array.getElem?_setIfInBounds, this]⟩
  have ht1 := ht _ hW
  obtain ⟨ao, cap, rfl, -, -⟩ := id ht1
  obtain ⟨b, o, e, hat⟩ := Sl.at ht1 (i := 0) (List.length_pos_iff.2 hne)
  rw [e] at hk
  have hb : b = k := by simpa [Value.ownBlock] using hk
  subst hb
  have hc := hat.c0
  unfold World.cell? at hc
  by_cases hlt : b < w.heap.size
  · simp [Array.getElem?_setIfInBounds, hlt] at hc
  · simp [Array.getElem?_setIfInBounds, hlt] at hc
section
variable {w : World} {G : Nat → Prop} {p : Nat} {os : List ObjV} {most : Int} (h : HeapP w G p os most)
include h
theorem progMakeR (t : TypeV) (dv : Value) (ts : List TypeV) (ht : Types w dv ts) (hfar : ∀ k, dv.ownBlock = some k → ts ≠ [] → ¬ G k) : Calls Try.prog 18 #[.pointer (some ⟨p, 0, none⟩), valT t, dv] w fun e w' =>
    e = .returned (.tuple #[.int .i64 (makeZ os most t ts).2.1, .int .i64 (makeZ os most t ts).2.2]) ∧ HpTo HeapP w G p (makeZ os most t ts).1 most w' := by
  obtain ⟨L, V, h1, h2⟩ := id h
  have hfv : ((spread 0 os).length : Int) < most → (allVs os).length + 1024 ≤ 1048576 := fun hf => by have := allVs_few os h2; have := h1.most0; rw [spread_len] at hf; omega
  refine (pMake14 h1 t dv ts ht hfar hfv).mono ?_
  rintro e w' ⟨E, hE, hno, hyes⟩
  rw [spread_len] at hE
  unfold makeZ
  by_cases hb : 1024 < ts.length
  · rw [if_pos hb] at hE ⊢
    obtain ⟨e1, e2⟩ := hno (by rw [hE]; decide)
    rw [hE] at e1
    exact ⟨e1, HpTo.same (h.only e2 (fun _ _ h => h)) (e2.mono (fun _ h _ => h.elim))⟩
  · rw [if_neg hb] at hE ⊢
    by_cases hfull : most ≤ (os.length : Int)
    · rw [if_pos hfull] at hE ⊢
      obtain ⟨e1, e2⟩ := hno (by rw [hE]; decide)
      rw [hE] at e1
      exact ⟨e1, HpTo.same (h.only e2 (fun _ _ h => h)) (e2.mono (fun _ h _ => h.elim))⟩
    · rw [if_neg hfull] at hE ⊢
      obtain ⟨e1, L', V', G', k, hk, hq, ho, hg⟩ := hyes hE
      rw [spread_len] at e1
      refine ⟨e1, G', ⟨L', V', ?_, fun x hx => ?_⟩, ho, hg⟩
      · rw [spread_append, allVs_append, Nat.zero_add]
        rw [hk] at hq
        simpa [allVs] using hq
      · rcases List.mem_append.1 hx with hx | hx
        · exact h2 x hx
        · rw [List.mem_singleton] at hx
          subst hx
          show (ts.map firstZ).length ≤ 1024
          rw [List.length_map]; omega
theorem progArrayR (t u : TypeV) (n : Int) : Calls Try.prog 19 #[.pointer (some ⟨p, 0, none⟩), valT t, valT u, .int .i64 n] w fun e w' =>
    e = .returned (.tuple #[.int .i64 (arrayZ os most t u n).2.1, .int .i64 (arrayZ os most t u n).2.2]) ∧ HpTo HeapP w G p (arrayZ os most t u n).1 most w' := by
  obtain ⟨L, V, h1, h2⟩ := id h
  have hfv : ((spread 0 os).length : Int) < most → (allVs os).length + 1024 ≤ 1048576 := fun hf => by have := allVs_few os h2; have := h1.most0; rw [spread_len] at hf; omega
  refine (pArray14 h1 t u n hfv).mono ?_
  rintro e w' ⟨E, hE, hno, hyes⟩
  rw [spread_len] at hE
  unfold arrayZ
  by_cases hb : n < 0
  · rw [if_pos hb] at hE ⊢
    obtain ⟨e1, e2⟩ := hno (by rw [hE]; decide)
    rw [hE] at e1
    exact ⟨e1, HpTo.same (h.only e2 (fun _ _ h => h)) (e2.mono (fun _ h _ => h.elim))⟩
  · rw [if_neg hb] at hE ⊢
    by_cases hfull : 1024 < n ∨ most ≤ (os.length : Int)
    · rw [if_pos hfull] at hE ⊢
      obtain ⟨e1, e2⟩ := hno (by rw [hE]; decide)
      rw [hE] at e1
      exact ⟨e1, HpTo.same (h.only e2 (fun _ _ h => h)) (e2.mono (fun _ h _ => h.elim))⟩
    · rw [if_neg hfull] at hE ⊢
      obtain ⟨e1, L', V', G', k, hk, hq, ho, hg⟩ := hyes hE
      rw [spread_len] at e1
      refine ⟨e1, G', ⟨L', V', ?_, fun x hx => ?_⟩, ho, hg⟩
      · rw [spread_append, allVs_append, Nat.zero_add]
        rw [hk] at hq
        simpa [allVs] using hq
      · rcases List.mem_append.1 hx with hx | hx
        · exact h2 x hx
        · rw [List.mem_singleton] at hx
          subst hx
          show (List.replicate n.toNat (firstZ u)).length ≤ 1024
          rw [List.length_replicate]; omega
theorem progSetR (r i : Int) (v : ValV) : Calls Try.prog 21 #[.pointer (some ⟨p, 0, none⟩), .int .i64 r, .int .i64 i, valVa v] w fun e w' =>
    e = .returned (.int .i64 (setZ os r i v).2) ∧ HpTo HeapP w G p (setZ os r i v).1 most w' := by
  obtain ⟨L, V, h1, h2⟩ := h
  refine (pSet14 h1 (cut_right os) r i v).mono ?_
  rintro e w' ⟨e1, hq, ho⟩
  obtain ⟨g1, g2, g3, g4⟩ := place_get os r i
  unfold setZ
  by_cases hE : (getZ os r i).2 = 0
  · have hE' : placeE (spread 0 os) r i = 0 := by rw [g1, hE]
    rw [if_pos hE', g2 hE'] at e1
    rw [g2 hE'] at hq
    obtain ⟨q1, q2, q3⟩ := g4 hE' v
    by_cases hk : (getZ os r i).1.k = v.k
    · rw [if_pos hk] at e1
      rw [if_pos ⟨hE', hk⟩] at hq
      rw [if_pos hE, if_pos hk]
      refine ⟨e1, HpTo.same ⟨L, V, ?_, putZ_short h2 r i v q3⟩ ho⟩
      rw [q1, q2]
      exact hq
    · rw [if_neg hk] at e1
      rw [if_neg (fun h => hk h.2)] at hq
      rw [if_pos hE, if_neg hk]
      exact ⟨e1, HpTo.same ⟨L, V, hq, h2⟩ ho⟩
  · have hE' : ¬ placeE (spread 0 os) r i = 0 := by rw [g1]; exact hE
    rw [if_neg hE', g1] at e1
    rw [if_neg (fun h => hE' h.1)] at hq
    rw [if_neg hE]
    exact ⟨e1, HpTo.same ⟨L, V, hq, h2⟩ ho⟩
theorem progGetR (r i : Int) : Calls Try.prog 20 #[.pointer (some ⟨p, 0, none⟩), .int .i64 r, .int .i64 i] w fun e w' => e = .returned (.tuple #[valVa (getZ os r i).1, .int .i64 (getZ os r i).2]) ∧ Only (fun _ => False) w w' := by
  obtain ⟨L, V, h1, h2⟩ := h
  refine (pGet14 h1 (cut_right os) r i).mono ?_
  rintro e w' ⟨e1, ho⟩
  obtain ⟨g1, g2, g3, -⟩ := place_get os r i
  refine ⟨?_, ho⟩
  rw [e1, ← g1]
  by_cases hE : placeE (spread 0 os) r i = 0
  · rw [if_pos hE, g2 hE]
  · rw [if_neg hE, g3 hE]
theorem progTypeR (r : Int) : Calls Try.prog 23 #[.pointer (some ⟨p, 0, none⟩), .int .i64 r] w fun e w' => e = .returned (.tuple #[valT (typeZ14 os r).1, .int .i64 (typeZ14 os r).2]) ∧ Only (fun _ => False) w w' := by
  obtain ⟨L, V, h1, h2⟩ := h
  obtain ⟨g1, g2, -⟩ := find_type os r
  rw [← g1, ← g2]
  exact pType14 h1 r
theorem progLenR (r : Int) : Calls Try.prog 24 #[.pointer (some ⟨p, 0, none⟩), .int .i64 r] w fun e w' => e = .returned (.int .i64 (lenZ14 os r)) ∧ Only (fun _ => False) w w' := by
  obtain ⟨L, V, h1, h2⟩ := h
  obtain ⟨-, -, g3, g4, g5⟩ := find_type os r
  rw [← g3]
  exact pLen14 h1 r (by have := h1.fewV; omega) g4
theorem progCountR : Calls Try.prog 12 #[.pointer (some ⟨p, 0, none⟩)] w fun e w' => e = .returned (.int .i64 (os.length : Int)) ∧ Only (fun _ => False) w w' := by
  obtain ⟨L, V, h1, h2⟩ := h
  refine (pCount14 h1).mono ?_
  rintro e w' ⟨e1, e2⟩
  rw [spread_len] at e1
  subst e2
  exact ⟨e1, Only.refl _ _⟩
theorem progCopyR : Calls Try.prog 22 #[.pointer (some ⟨p, 0, none⟩)] w fun e w' => ∃ q H, e = .returned (.pointer (some ⟨q, 0, none⟩)) ∧ HeapP w' H q os most ∧ Only (fun _ => False) w w' ∧ ∀ k, H k → w.heap.size ≤ k := by
  obtain ⟨L, V, h1, h2⟩ := h
  refine (pCopy14 h1).mono ?_
  rintro e w' ⟨q, H, L', V', e1, hq, ho, hk⟩
  exact ⟨q, H, e1, ⟨L', V', hq, h2⟩, ho, hk⟩
theorem progAllR : Calls Try.prog 14 #[.pointer (some ⟨p, 0, none⟩)] w fun e w' => ∃ v H, e = .returned v ∧ ObjsO w' H v os ∧ Only (fun _ => False) w w' ∧ ∀ k, H k → w.heap.size ≤ k := by
  obtain ⟨L, V, h1, h2⟩ := h
  exact pAll14 h1 h2
end
attribute [irreducible] HeapP
end Go.Proofs.Ytebeoganblcblaa
