/- The program's look at all places that a method names. Conditions: as for the iterator. -/
import Derived.WalkMore
import Derived.Test.YtngoajhnnlnphaaFloO
namespace Go.Proofs.Ytngoajhnnlnphaa
open Go.RowKit Go.Shelf
set_option linter.unusedVariables false
set_option linter.unusedSimpArgs false
attribute [local go_sem] Oper.semAt_some

def strayZ (l : List InstrV) (n : Int) (x : Int × Bool) : Bool := decide (atZ l x.1 < 0) && !(x.2 && (x.1 == n))
theorem stray_lead (l : List InstrV) (n : Int) (k : InstrV) : (nameI k).any (strayZ l n) = badLead l k := by
  unfold nameI badLead
  cases isLead k <;> simp [strayZ]
theorem stray_trap (l : List InstrV) (n : Int) (t : TrapV) : (nameT t).any (strayZ l n) = badTrap l n t := by
  unfold nameT badTrap
  simp only [strayZ, List.any_cons, List.any_nil, Bool.false_and, Bool.not_false, Bool.and_true, Bool.true_and, Bool.or_false]
  rfl
theorem any_flat {α β : Type} (f : α → List β) (p : β → Bool) : ∀ l : List α, (l.flatMap f).any p = l.any (fun a => (f a).any p)
  | [] => rfl
  | a :: r => by rw [List.flatMap_cons, List.any_append, List.any_cons, any_flat f p r]
theorem not_all {α : Type} (p : α → Bool) : ∀ l : List α, l.all (fun a => !p a) = !l.any p
  | [] => rfl
  | a :: r => by rw [List.all_cons, List.any_cons, not_all p r, Bool.not_or]
/-- The document's word in the program's. -/
theorem rightL_names (l : List InstrV) (n : Int) (ts : List TrapV) : rightL l n ts = (!(l.isEmpty || lastFalls l) && !(namesZ l ts).any (strayZ l n)) := by
  unfold rightL namesZ namesL namesT
  rw [List.any_append, any_flat, any_flat, Bool.not_or, not_all, not_all]
  have e1 : (fun a => (nameI a).any (strayZ l n)) = fun k => badLead l k := funext (stray_lead l n)
  have e2 : (fun a => (nameT a).any (strayZ l n)) = fun t => badTrap l n t := funext (stray_trap l n)
  rw [e1, e2, Bool.not_or]

/-- Nothing of it is left; the last is. -/
def Quiet7 (l : List InstrV) (n : Int) (pre : List NameV) : Prop := ∀ x ∈ pre, strayZ l n x.1 = false
def Loud7 (l : List InstrV) (n : Int) (pre : List NameV) : Prop := ∃ x ∈ pre, strayZ l n x.1 = true
theorem names_in (a1 a2 : Option Addr) (n1 k1 n2 k2 : Nat) (w : World) : Calls Try.prog 32 #[.slice a1 n1 k1, .slice a2 n2 k2] w fun e w' => e = .returned (.func (.func 39) #[] #[.pointer (some ⟨w.heap.size, 0, none⟩), .pointer (some ⟨w.heap.size + 1, 0, none⟩)]) ∧ w' = (w.alloc (.cells #[.slice a1 n1 k1] 23)).alloc (.cells #[.slice a2 n2 k2] 32) := by
  go_enter Try.func32, Try.ntmps32
  go_wp2
  go_ret
  exact ⟨rfl, rfl⟩

set_option maxHeartbeats 16000000 in
set_option maxRecDepth 100000 in
theorem strays (m : MethodV) (vc vt vm vl : Value) (l : List InstrV) (w : World) (hl : Instrs w vl l) (hm : Inside w m vc vt vm) (hr : ∀ k ∈ l, I64 k.at_) (hra : ∀ k ∈ l, isLead k = true → I64 k.a) (hn : l.length ≤ 4194304) (hnt : m.traps.length ≤ 9223372036854775806) :
    Calls Try.prog 23 #[vl, .agg #[.int .i64 m.flags, .int .i64 m.name, .int .i64 m.desc, .int .i64 m.stack, .int .i64 m.locals, vc, vt, vm]] w fun e w' => e = .returned (.bool ((namesZ l m.traps).any (strayZ l m.code.length))) ∧ Only (fun _ => False) w w' := by
  obtain ⟨hbc, ht, -⟩ := hm
  obtain ⟨ac, cc, rfl, p1, p2, p3, -, -⟩ := id hbc
  obtain ⟨at_, ct, rfl, s1, s2, s3, -⟩ := id ht.1
  obtain ⟨al, cl, rfl, r1, r2, r3, -⟩ := id hl
  have hb0 := heap_alloc_new w (.cells #[.int .i64 m.flags, .int .i64 m.name, .int .i64 m.desc, .int .i64 m.stack, .int .i64 m.locals, .slice ac m.code.length cc, .slice at_ m.traps.length ct, vm] 34)
  have ho0 := (Only.refl (fun _ => False) w).alloc (.cells #[.int .i64 m.flags, .int .i64 m.name, .int .i64 m.desc, .int .i64 m.stack, .int .i64 m.locals, .slice ac m.code.length cc, .slice at_ m.traps.length ct, vm] 34)
  have c1 := placesOf _ l _ (hl.only ho0) hr hn
  rw [World.size_alloc] at c1
  have HL := Lib.hid hl
  have HT := Lib.hid ht
  have HRA := Lib.hid hra
  have HB0 := Lib.hid hb0
  have HO0 := Lib.hid ho0
  have C1 := Lib.hid c1
  unfold maxLen at p2
  clear hl ht hbc hb0 ho0 c1 p3 s3 r3 hra hr
  refine (callsIn_wide (n := 9)).1 ?_
  refine callsIn_of_wp_marks Try.func23 rfl trivial ?_ rfl
  simp only [Try.ntmps23, List.size_toArray, List.length_cons, List.length_nil, Nat.reduceAdd, Nat.reduceSub, Array.replicate_succ, Array.replicate_zero, List.push_toArray, List.append_toArray, List.nil_append, List.cons_append]
  refine wpIn_wide.2 ?_
  go_wp2
  apply wp_scope_straight
  go_wp2_with (fail)
  refine C1.out.mono ?_
  rintro e w2 ⟨rfl, hown, ho2⟩
  have hb2 := ho2.heap HB0.out (fun h => h)
  have hon2 := HO0.out.trans ho2 (fun _ h _ => h)
  have b5 := (Boxed.new w2 66 (.map (some (w.heap.size + 1)))).alloc (.cells #[.bool false] 4)
  have b6 := Boxed.new (w2.alloc (.cells #[.map (some (w.heap.size + 1))] 66)) 4 (.bool false)
  rw [World.size_alloc] at b6
  have ho4 := ((Only.refl (fun _ => False) w2).alloc (.cells #[.map (some (w.heap.size + 1))] 66)).alloc (.cells #[.bool false] 4)
  have hown4 := (hown.alloc (.cells #[.map (some (w.heap.size + 1))] 66)).alloc (.cells #[.bool false] 4)
  have hsz4 : ((w2.alloc (.cells #[.map (some (w.heap.size + 1))] 66)).alloc (.cells #[.bool false] 4)).heap.size = w2.heap.size + 2 := by simp
  go_wp2
  apply wp_label
  obtain ⟨W4, hW4⟩ : ∃ W4, ((w2.alloc (.cells #[.map (some (w.heap.size + 1))] 66)).alloc (.cells #[.bool false] 4)) = W4 := ⟨_, rfl⟩
  rw [hW4] at b5 b6 ho4 hown4 hsz4 ⊢
  clear hW4
  have hb4 := ho4.heap hb2 (fun h => h)
  have hon4 := hon2.trans ho4 (fun _ h _ => h)
  have hgt := hon2.size
  have hgt2 := hown.lt
  obtain ⟨q5, q6⟩ := cells8 hb4
  have HB4 := Lib.hid hb4
  have HON4 := Lib.hid hon4
  have B5 := Lib.hid b5
  have B6 := Lib.hid b6
  have HOWN4 := Lib.hid hown4
  clear hb2 hon2 b5 b6 ho4 hown4 hown ho2 hb4 hon4 C1 HB0 HO0
  go_wp2_with (fail)
  refine (names_in al at_ l.length cl m.traps.length ct _).mono ?_
  rintro e w5 ⟨rfl, rfl⟩
  go_wp2
  have ho5 := ((Only.refl (fun _ => False) W4).alloc (.cells #[.slice al l.length cl] 23)).alloc (.cells #[.slice at_ m.traps.length ct] 32)
  have b7 := ((Boxed.new W4 23 (.slice al l.length cl)).alloc (.cells #[.slice at_ m.traps.length ct] 32)).cell
  have b8 := (Boxed.new (W4.alloc (.cells #[.slice al l.length cl] 23)) 32 (.slice at_ m.traps.length ct)).cell
  have hsz5 : ((W4.alloc (.cells #[.slice al l.length cl] 23)).alloc (.cells #[.slice at_ m.traps.length ct] 32)).heap.size = w2.heap.size + 4 := by simp; omega
  have hown5 := (HOWN4.out.alloc (.cells #[.slice al l.length cl] 23)).alloc (.cells #[.slice at_ m.traps.length ct] 32)
  have b5 := (B5.out.alloc (.cells #[.slice al l.length cl] 23)).alloc (.cells #[.slice at_ m.traps.length ct] 32)
  have b6 := (B6.out.alloc (.cells #[.slice al l.length cl] 23)).alloc (.cells #[.slice at_ m.traps.length ct] 32)
  rw [World.size_alloc] at b8
  obtain ⟨W5, hW5⟩ : ∃ W5, ((W4.alloc (.cells #[.slice al l.length cl] 23)).alloc (.cells #[.slice at_ m.traps.length ct] 32)) = W5 := ⟨_, rfl⟩
  rw [hW5] at ho5 b7 b8 hsz5 hown5 b5 b6 ⊢
  rw [hsz4] at b7 b8
  clear hW5
  have hm5 := ho5.heap HB4.out (fun h => h)
  have hon5 := HON4.out.trans ho5 (fun _ h _ => h)
  have hl5 := HL.out.only hon5
  have ht5 := HT.out.only hon5
  refine (wpIn_wide (n := 9)).1 ?_
  refine wpIn_rangeFunc_ownG (F := Fence.wide) rfl (by decide) (gf := 39) (lb := #[.pointer (some ⟨w2.heap.size + 2, 0, none⟩), .pointer (some ⟨w2.heap.size + 2 + 1, 0, none⟩)]) rfl trivial (enters_of Try.func39 (by kernel_rfl) rfl)
    (encs := encN) (Kp := KeepA) (S := fun xs => xs.map (·.1) = namesZ l m.traps) (Sp := Among l m.traps) (N := l.length + 3 * m.traps.length) (w0 := W5)
    (fun lo J Jx W hW hJ hJx hY h0 => named_in 8 (by decide) _ _ l m.traps W5 (w2.heap.size + 2) (w2.heap.size + 2 + 1) hl5 ht5 b7 b8 HRA.out (by omega) (by omega) lo J Jx W
      (fun s X Y h ho => hJ s X Y none h (only_grown0 ho) (fun r e => by cases e)) hY (KeepA.only (Only.of_below hW _)) h0)
    (fun h k => KeepA.trans h k) (fun W l o o' h1 h2 h3 h4 => keepA_b W l o o' h1 h2 h3 h4) (Below.refl _ _) (fun _ => rfl)
    (fun pre W => (((Boxed W w2.heap.size 66 (.map (some (w.heap.size + 1))) ∧ W.ownsMap Try.prog 3 (plainElem (H := Unit) Try.prog 3) (w.heap.size + 1) l.length (placesD l l.length)) ∧ Boxed W (w2.heap.size + 1) 4 (.bool false) ∧ W.heap[w.heap.size]? = some (.cells #[.int .i64 m.flags, .int .i64 m.name, .int .i64 m.desc, .int .i64 m.stack, .int .i64 m.locals, .slice ac m.code.length cc, .slice at_ m.traps.length ct, vm] 34)) ∧ Quiet7 l m.code.length pre) ∧ Below w.heap.size w W)
    (fun c pre W => (c = .exit 0 ∧ Loud7 l m.code.length pre ∧ Boxed W (w2.heap.size + 1) 4 (.bool true)) ∧ Below w.heap.size w W)
    (OwnFrom.and (fun s X Y row hs hg hr => by
      obtain ⟨⟨⟨h1, h2⟩, h3, h4⟩, h5⟩ := hs
      exact ⟨⟨⟨boxed_kept h1 hg (fun r e => (hr r e).2), h2.kept hg (fun e => by have := (hr _ e.symm).1; omega)⟩, boxed_kept h3 hg (fun r e => (hr r e).2), heap_kept h4 rfl hg (fun r e => (hr r e).2)⟩, h5⟩) (ownFrom_below (Nat.le_refl _) (by omega)))
    (fun c => OwnFrom.and (Own.from (fun s X Y row hs hg hr => by
      obtain ⟨h1, h2, h3⟩ := hs
      exact ⟨h1, h2, boxed_kept h3 hg hr⟩) _) (ownFrom_below (Nat.le_refl _) (by omega)))
    ⟨⟨⟨⟨b5, hown5⟩, b6, hm5⟩, fun x hx => by cases hx⟩, hon5.none⟩
    (fun x => { tmps := #[.slice al l.length cl, .agg #[.int .i64 m.flags, .int .i64 m.name, .int .i64 m.desc, .int .i64 m.stack, .int .i64 m.locals, .slice ac m.code.length cc, .slice at_ m.traps.length ct, vm], undef, .pointer (some ⟨w.heap.size, 0, none⟩), .bool false, .pointer (some ⟨w2.heap.size, 0, none⟩), .pointer (some ⟨w2.heap.size + 1, 0, none⟩), .int .i64 x.1.1, .bool x.1.2, undef, undef, .slice al l.length cl, .map (some (w.heap.size + 1)), .slice al l.length cl, .pointer (some ⟨w.heap.size, 6, none⟩), .slice at_ m.traps.length ct, .func (.func 39) #[] #[.pointer (some ⟨w2.heap.size + 2, 0, none⟩), .pointer (some ⟨w2.heap.size + 2 + 1, 0, none⟩)], .int .i64 x.1.1, .bool x.1.2, undef, undef, undef, undef, undef, undef, undef, undef, undef, undef, undef, undef, undef, undef, undef, undef, undef, undef], defers := [] })
    ?assign ?body ?done ?stop
  case assign =>
    intro lo x W K hK
    gi_wp2
    exact hK
  case body =>
    rintro lo pre ⟨⟨x, b⟩, hx⟩ W ⟨⟨⟨⟨h1, hown⟩, h3, h4⟩, hst⟩, hB⟩ _
    have c5 := h1.cell
    have c6 := h3.cell
    have f6 := h3.frozen
    obtain ⟨q5, q6⟩ := cells8 h4
    have hhas := places_at l x
    have HKEY := Lib.hid (i64_wf hx)
    have HOWN := Lib.hid hown
    have H1 := Lib.hid h1
    have H3 := Lib.hid h3
    have H4 := Lib.hid h4
    have HB := Lib.hid hB
    have HADD : Hid (strayZ l m.code.length (x, b) = false → Quiet7 l m.code.length (pre ++ [(⟨(x, b), hx⟩ : NameV)])) := Lib.hid (fun hs y hy => by
      rcases List.mem_append.1 hy with h | h
      · exact hst y h
      · rw [List.mem_singleton.1 h]; exact hs)
    clear hown h1 h3 h4 hB hst hl5 ht5 ho5 hon5 hm5 b5 b6 b7 b8 hown5
    cases hz : decide (atZ l x < 0)
    · rw [hz, Bool.not_false] at hhas
      have HS := Lib.hid (HADD.out (by unfold strayZ; rw [hz, Bool.false_and]))
      clear hz
      gi_wp2_with (gi_at_lookup; refine wpListIn_lookup_own_ok_int _ rfl _ _ 66 rfl 3 3 .i64 (Maps.int_keyed Try.underlying3) Try.underlying66 Try.underlying3 (zero_int _) (w.heap.size + 1) l.length (placesD l l.length) rfl (by exact HOWN.out) _ _ rfl (Maps.keyOf_int_mk Try.underlying3 HKEY.out) ?_; intro c hat hwc; clear hat hwc)
      exact ⟨KeepsFrom.refl _ _, KeepA.refl _, ⟨⟨⟨H1.out, HOWN.out⟩, H3.out, H4.out⟩, HS.out⟩, HB.out⟩
    · rw [hz, Bool.not_true] at hhas
      by_cases hbx : (b && (x == (m.code.length : Int))) = true
      · have HS := Lib.hid (HADD.out (by unfold strayZ; rw [hz]; simp only [hbx]; rfl))
        obtain ⟨rfl, hxe⟩ := Bool.and_eq_true_iff.1 hbx
        clear hz hbx
        gi_wp2_with (gi_at_lookup; refine wpListIn_lookup_own_ok_int _ rfl _ _ 66 rfl 3 3 .i64 (Maps.int_keyed Try.underlying3) Try.underlying66 Try.underlying3 (zero_int _) (w.heap.size + 1) l.length (placesD l l.length) rfl (by exact HOWN.out) _ _ rfl (Maps.keyOf_int_mk Try.underlying3 HKEY.out) ?_; intro c hat hwc; clear hat hwc)
        exact ⟨KeepsFrom.refl _ _, KeepA.refl _, ⟨⟨⟨H1.out, HOWN.out⟩, H3.out, H4.out⟩, HS.out⟩, HB.out⟩
      · have hbf : (b && (x == (m.code.length : Int))) = false := by simpa using hbx
        have HS : Hid (Loud7 l m.code.length (pre ++ [(⟨(x, b), hx⟩ : NameV)])) := Lib.hid ⟨_, List.mem_append_right _ (List.mem_singleton.2 rfl), by unfold strayZ; rw [hz]; simp only [hbf]; rfl⟩
        have HOUT : Hid (KeepsOthers W (W.setCell ⟨w2.heap.size + 1, 0, none⟩ (.bool true)) ∧ Boxed (W.setCell ⟨w2.heap.size + 1, 0, none⟩ (.bool true)) (w2.heap.size + 1) 4 (.bool true) ∧ Below w.heap.size w (W.setCell ⟨w2.heap.size + 1, 0, none⟩ (.bool true))) :=
          Lib.hid ⟨KeepsOthers.setCell _ _ _, H3.out.set _, HB.out.setCell (p := ⟨w2.heap.size + 1, 0, none⟩) (by simp; omega) _⟩
        clear hz hbx
        cases b
        · clear hbf
          gi_wp2_with (gi_at_lookup; refine wpListIn_lookup_own_ok_int _ rfl _ _ 66 rfl 3 3 .i64 (Maps.int_keyed Try.underlying3) Try.underlying66 Try.underlying3 (zero_int _) (w.heap.size + 1) l.length (placesD l l.length) rfl (by exact HOWN.out) _ _ rfl (Maps.keyOf_int_mk Try.underlying3 HKEY.out) ?_; intro c hat hwc; clear hat hwc)
          exact ⟨HOUT.out.1.from _, ⟨rfl, HS.out, HOUT.out.2.1⟩, HOUT.out.2.2⟩
        · rw [Bool.true_and] at hbf
          gi_wp2_with (gi_at_lookup; refine wpListIn_lookup_own_ok_int _ rfl _ _ 66 rfl 3 3 .i64 (Maps.int_keyed Try.underlying3) Try.underlying66 Try.underlying3 (zero_int _) (w.heap.size + 1) l.length (placesD l l.length) rfl (by exact HOWN.out) _ _ rfl (Maps.keyOf_int_mk Try.underlying3 HKEY.out) ?_; intro c hat hwc; clear hat hwc)
          exact ⟨HOUT.out.1.from _, ⟨rfl, HS.out, HOUT.out.2.1⟩, HOUT.out.2.2⟩
  case done =>
    rintro D xs W hD hS ⟨⟨⟨⟨h1, hown⟩, h3, h4⟩, hst⟩, hB⟩ hK
    have c6 := h3.cell
    have hB2 := hB.trans (belowK_b (w := w) (Nat.le_refl _) _ D _ (.deferred none) (by omega) hK rfl rfl)
    have HF : Hid ((namesZ l m.traps).any (strayZ l m.code.length) = false) := Lib.hid (by
      rw [← hS, List.any_eq_false]
      intro y hy
      obtain ⟨z, hz, rfl⟩ := List.mem_map.1 hy
      rw [hst z hz]; decide)
    have HB2 := Lib.hid hB2
    have HK := Lib.hid hK
    clear h1 hown h4 hst hB hB2 hS hK hl5 ht5 ho5 hon5 hm5 b5 b6 b7 b8 hown5
    go_wp2
    refine ⟨by simp, .inl ⟨_, _, rfl, run_takeDeferred HK.out, ?_⟩⟩
    exact ⟨_, results_tmp rfl _ _ _, by rw [HF.out]; rfl, Only.of_below HB2.out _⟩
  case stop =>
    rintro D c pre W hD hA ⟨⟨rfl, ⟨x, hxm, hs⟩, h3⟩, hB⟩ hK
    have c6 := h3.cell
    have hB2 := hB.trans (belowK_b (w := w) (Nat.le_refl _) _ D _ (.deferred none) (by omega) hK rfl rfl)
    have HF : Hid ((namesZ l m.traps).any (strayZ l m.code.length) = true) := Lib.hid (by
      rw [List.any_eq_true]
      exact ⟨x.1, hA x hxm, hs⟩)
    have HB2 := Lib.hid hB2
    have HK := Lib.hid hK
    clear hs hxm hA hB hB2 hK hl5 ht5 ho5 hon5 hm5 b5 b6 b7 b8 hown5
    refine wpIn_wide.2 ?_
    go_wp2
    refine ⟨by simp, .inl ⟨_, _, rfl, run_takeDeferred HK.out, ?_⟩⟩
    exact ⟨_, results_tmp rfl _ _ _, by rw [HF.out]; rfl, Only.of_below HB2.out _⟩
end Go.Proofs.Ytngoajhnnlnphaa
