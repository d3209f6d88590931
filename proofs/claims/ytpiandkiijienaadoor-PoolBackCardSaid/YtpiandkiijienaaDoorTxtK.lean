/- Decode: what it answers, at bytes within the form's own reach. -/
import Derived.Test.YtpiandkiijienaaDoorTxtJ
import Derived.Deep.LoopGhost
namespace Go.Proofs.YtpiandkiijienaaDoor
open Go.RowKit Go.Shelf
set_option linter.unusedVariables false
set_option linter.unusedSimpArgs false

/-- A builder that holds these bytes. -/
def Bld (B : Nat) (ys : List Int) (w : World) : Prop := Lib.IsBuilderF 173 5 B B (ys.map (Value.int .u8)) w
theorem bldAt_only {T e B b : Nat} {p : Value} {bs : List Value} {w w' : World} (h : Lib.BuilderAtF T e B b p bs w) (ho : Only (fun _ => False) w w') : Lib.BuilderAtF T e B b p bs w' := by
  obtain ⟨hB, v, hb, hown, hne⟩ := h
  refine ⟨hB, v, ho.heap hb (fun h => h), ⟨hown.1, ?_⟩, hne⟩
  rcases hown.2 with hn | ⟨g, cap, cur, fz, hv, hbg, hg, rest⟩
  · exact .inl hn
  · exact .inr ⟨g, cap, cur, fz, hv, hbg, ho.heap hg (fun h => h), rest⟩
theorem Bld.only {B : Nat} {ys : List Int} {w w' : World} (h : Bld B ys w) (ho : Only (fun _ => False) w w') : Bld B ys w' :=
  h.elim (fun x => .inl (bldAt_only x ho)) (fun x => .inr (bldAt_only x ho))
theorem rune_cells (c : Int) : Lib.runeCells c = (enc8 c).map (Value.int .u8) := rfl
theorem byte_cells {ys : List Int} (h : Bytish ys) : Lib.byteCells (ys.map fun n => UInt8.ofNat n.toNat) = ys.map (Value.int .u8) := by
  simp only [Lib.byteCells, List.map_map]
  apply List.map_congr_left
  intro z hz
  have := h z hz
  unfold IsByte at this
  simp [Function.comp]
  omega

theorem string_k (B : Nat) (ys : List Int) (hz : Bytish ys) (w : World) (h : Bld B ys w) (hBw : B ≤ w.heap.size) :
    Calls Tryd.prog 95 #[.pointer (some ⟨B, 0, none⟩)] w fun e w' => e = .returned (.string (strOfNums ys)) ∧ Below B w w' := by
  have h' : Lib.IsBuilderF 173 5 B B (Lib.byteCells (ys.map fun n => UInt8.ofNat n.toNat)) w := by rw [byte_cells hz]; exact h
  exact (Tryd.Builder_String_any_k B B _ w h' hBw).mono fun e w' h => ⟨h.1, h.2.2.1⟩

set_option maxHeartbeats 4000000 in
set_option maxRecDepth 100000 in
theorem decode (v : Value) (zs : List Int) (w : World) (hb : Bytes w v zs) (hl : zs.length ≤ 140737488351232) :
    Calls Tryd.prog 86 #[v] w fun e w' => ∃ ys k, e = .returned (.tuple #[.string (strOfNums ys), .int .i64 k]) ∧ Dec zs ys k ∧ Only (fun _ => False) w w' := by
  go_enter Tryd.func86, Tryd.ntmps86
  go_wp2
  go_loopg [0] (zs.length + 1) (fun gk b wr => ∃ (pre rest : List Int), Bytes w b rest ∧ AllSc pre ∧ zs = M8s pre ++ rest ∧ rest.length < gk ∧ Bld w.heap.size (U8s pre) wr ∧ Below w.heap.size w wr)
  case atStart => exact ⟨[], zs, hb, .nil, rfl, by omega, Lib.IsBuilderF.of (Lib.fresh_isBuilder 173 5 w), (Below.refl _ w).alloc (Nat.le_refl _) _⟩
  case round =>
    obtain ⟨pre, rest, hbr, hsc, hzs, hgk, hbld, hbel⟩ := hrel
    obtain ⟨ao, cap, rfl, hq1, hq2, _, hbz, _⟩ := id hbr
    have hlen : (M8s pre).length + rest.length = zs.length := by rw [hzs, List.length_append]
    have hml := (M8s_len hsc).1
    have Hzs := Lib.hid hzs
    have Hbr := Lib.hid hbr
    clear hzs hbr hb
    by_cases h0 : 0 < rest.length
    · obtain ⟨g', rfl⟩ : ∃ g', gk = g' + 1 := ⟨gk - 1, by omega⟩
      have h0z : (0 : Int) < (rest.length : Int) := by omega
      go_wp2_with (fail)
      refine (firstPoint _ rest _ ((Hbr.out).below hbel (Nat.le_refl _)) (by omega)).mono ?_
      rintro e w1 ⟨⟨c, n, rfl, hpt⟩, ho1⟩
      have hbel1 : Below w.heap.size w w1 := hbel.trans (ho1.below (hbel.size) (fun _ h => h.elim))
      have hbld1 := hbld.only ho1
      clear hbld hbel ho1
      rcases hpt with ⟨hc, hn, r, hr⟩ | ⟨hno, rfl⟩
      · have hn1 : 1 ≤ n := by rw [hn]; exact (m8_le hc).1
        have hnl : n ≤ rest.length := by rw [hr, List.length_append]; omega
        have hnb : ((n : Int) == 0) = false := by simp; omega
        have hnz : (n : Int) ≤ (rest.length : Int) := by omega
        have hcr : 0 ≤ c ∧ c ≤ 1114111 := by unfold Sc at hc; omega
        have hdr : rest.drop n = r := by rw [hr, hn, List.drop_left]
        have hzs2 : zs = M8s (pre ++ [c]) ++ r := by rw [M8s_append, M8s_cons, M8s_nil, List.append_nil, List.append_assoc, ← hr]; exact Hzs.out
        have hrl : r.length + n = rest.length := by rw [← hdr, List.length_drop]; omega
        have Hzs2 := Lib.hid hzs2
        have Hdr := Lib.hid hdr
        clear hr hn hdr hzs2
        have hsize : w.heap.size ≤ w1.heap.size := hbel1.size
        go_wp2_with (fail)
        refine (Tryd.Builder_WriteRune_k w.heap.size w.heap.size _ c (by omega) (by omega) _ hbld1 (by simp only [List.length_map]; omega) hsize).mono ?_
        rintro e w2 ⟨rfl, hb2, hbel2, _⟩
        have hbel12 := hbel1.trans hbel2
        have hbld2 : Bld w.heap.size (U8s (pre ++ [c])) w2 := by
          unfold Bld
          rw [U8s_append, U8s_cons, U8s_nil, List.append_nil, List.map_append, ← rune_cells]
          exact Or.inr hb2
        clear hb2 hbel2 hbel1 hbld1
        go_wp2
        · have hn := Bytes.rest0 Hbr.out n hnl (by omega)
          rw [Hdr.out] at hn
          go_roundg g'
          case measure => omega
          case rel => exact ⟨pre ++ [c], r, hn, hsc.append (.mk hc .nil), Hzs2.out, by omega, hbld2, hbel12⟩
        · have hn := Bytes.rest Hbr.out n hnl
          rw [Hdr.out] at hn
          go_roundg g'
          case measure => omega
          case rel => exact ⟨pre ++ [c], r, hn, hsc.append (.mk hc .nil), Hzs2.out, by omega, hbld2, hbel12⟩
      · have hnot : ¬ ∃ cs, IsMod zs cs := by
          rw [Hzs.out, mod_tails hsc]
          exact no_mod (by intro e; subst e; simp at h0) hno
        go_wp2
        go_ret2
        exact ⟨[], 20, rfl, .inr ⟨hnot, rfl, rfl⟩, Only.of_below hbel1 _⟩
    · have hr0 : rest = [] := List.eq_nil_of_length_eq_zero (by omega)
      subst hr0
      go_wp2_with (fail)
      refine (string_k w.heap.size (U8s pre) (U8s_byte pre) _ hbld hbel.size).mono ?_
      rintro e w1 ⟨rfl, hbel1⟩
      have hbel2 := hbel.trans hbel1
      clear hbel hbel1 hbld
      go_wp2
      go_ret2
      exact ⟨U8s pre, 0, rfl, .inl ⟨pre, ⟨hsc, by rw [Hzs.out, List.append_nil]⟩, rfl, rfl⟩, Only.of_below hbel2 _⟩
end Go.Proofs.YtpiandkiijienaaDoor
