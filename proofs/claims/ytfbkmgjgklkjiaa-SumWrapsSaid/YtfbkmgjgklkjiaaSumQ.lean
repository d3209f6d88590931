/- The document's own Wrap and Open: what they answer. The bound is the form's own reach. -/
import Derived.Test.YtfbkmgjgklkjiaaSumR
import Derived.WalkKit
namespace Go.Proofs.Ytfbkmgjgklkjiaa
open Go.RowKit
set_option linter.unusedVariables false
set_option linter.unusedSimpArgs false

/-- A number in four bytes, the highest first; the lowest first. -/
def be4 (n : Int) : List Int := [n / 16777216 % 256, n / 65536 % 256, n / 256 % 256, n % 256]
def le4 (n : Int) : List Int := [n % 256, n / 256 % 256, n / 65536 % 256, n / 16777216 % 256]
/-- A frame. -/
def frame (zs : List Int) : List Int := be4 zs.length ++ zs ++ le4 (crc (be4 zs.length ++ zs))
theorem be4_byte (n : Int) : Bytish (be4 n) := by
  intro z hz
  unfold be4 at hz
  unfold IsByte
  simp only [List.mem_cons, List.mem_nil_iff, or_false] at hz
  omega
theorem le4_byte (n : Int) : Bytish (le4 n) := by
  intro z hz
  unfold le4 at hz
  unfold IsByte
  simp only [List.mem_cons, List.mem_nil_iff, or_false] at hz
  omega

theorem be4_small {n : Int} (h0 : 0 ≤ n) (h1 : n ≤ 1048576) : be4 n = [n / 16777216, n / 65536, n / 256 % 256, n % 256] := by
  unfold be4
  rw [show n / 16777216 % 256 = n / 16777216 by omega, show n / 65536 % 256 = n / 65536 by omega]
theorem le4_small {n : Int} (h0 : 0 ≤ n) (h1 : n < 4294967296) : le4 n = [n % 256, n / 256 % 256, n / 65536 % 256, n / 16777216] := by
  unfold le4
  rw [show n / 16777216 % 256 = n / 16777216 by omega]
set_option maxHeartbeats 4000000 in
set_option maxRecDepth 100000 in
theorem refWrap (v : Value) (zs : List Int) (w : World) (hb : Bytes w v zs) (hl : zs.length ≤ 140737488351232) :
    Calls Try.prog 13 #[v] w fun e w' => ∃ v' k, e = .returned (.tuple #[v', .int .i64 k]) ∧ Only (fun _ => False) w w' ∧
      ((zs.length ≤ 1048576 ∧ k = 0 ∧ Row w' w.heap.size v' (frame zs)) ∨ (1048576 < zs.length ∧ k = 2 ∧ v' = .slice none 0 0)) := by
  obtain ⟨i0, hi, hz0, hz1, hz2⟩ := info_parts info_u8
  obtain ⟨ao, cap, rfl, hq1, hq2, hq3, hbz, hcells⟩ := id hb
  have Hb := Lib.hid hb
  clear hb hcells hq3
  by_cases hlong : zs.length ≤ 1048576
  · have hlz : (zs.length : Int) ≤ 1048576 := by omega
    go_enter Try.func13, Try.ntmps13
    have hrow1 : Row (w.alloc (.cells #[.int .u8 ((zs.length : Int) / 16777216), .int .u8 ((zs.length : Int) / 65536), .int .u8 ((zs.length : Int) / 256 % 256), .int .u8 ((zs.length : Int) % 256)] 5)) w.heap.size (.slice (some ⟨w.heap.size, 0, none⟩) 4 4) (be4 zs.length) := by
      rw [be4_small (by omega) hlz]
      exact Row.new (xs := [(zs.length : Int) / 16777216, (zs.length : Int) / 65536, (zs.length : Int) / 256 % 256, (zs.length : Int) % 256]) (by unfold maxLen; simp)
    have ho1 : Only (fun _ => False) w (w.alloc (.cells #[.int .u8 ((zs.length : Int) / 16777216), .int .u8 ((zs.length : Int) / 65536), .int .u8 ((zs.length : Int) / 256 % 256), .int .u8 ((zs.length : Int) % 256)] 5)) := (Only.refl _ _).alloc _
    have Hr1 := Lib.hid hrow1
    have Ho1 := Lib.hid ho1
    clear hrow1 ho1
    go_wp2_with (at_builtin; go_loud (refine wpList_append_src rfl (.tmp 24) (.tmp 25) 22 rfl 5 i0 (.int .u8 0) 1 1 Try.underlying22 hi hz0 hz1 hz2 rfl (by decide) w.heap.size (.slice (some ⟨w.heap.size, 0, none⟩) 4 4) 4 ((be4 zs.length).map (Value.int .u8)) rfl (by exact Hr1.out) (by exact (Ho1.out).size) (.slice ao zs.length cap) zs.length (zs.map (Value.int .u8)) rfl (by exact Src.of_bytes ((Hb.out).only Ho1.out (fun _ _ _ h => h))) (by unfold maxLen; omega) (by omega) ?_); intro v' w1 hown1 hgrow1 hnew1)
    obtain ⟨hrow2, ho2⟩ := Row.push Hr1.out Ho1.out hown1 hgrow1 hnew1
    clear hown1 hgrow1 hnew1 Hr1 Ho1
    obtain ⟨ys, hys⟩ : ∃ ys, be4 zs.length ++ zs = ys := ⟨_, rfl⟩
    rw [hys] at hrow2
    have hyl : ys.length ≤ zs.length + 4 := by rw [← hys]; simp [be4]
    have hyb : Bytish ys := by rw [← hys]; exact (be4_byte _).append hbz
    have Hys := Lib.hid hys
    clear hys
    obtain ⟨ao2, cap2, rfl, hc1, hc2⟩ := slice_of_owns hrow2
    refine (refSum _ ys _ (hrow2.bytes hyb) (by omega)).mono ?_
    rintro e w2 ⟨rfl, rfl⟩
    have Hrow := Lib.hid hrow2
    have Ho := Lib.hid ho2
    have hcl := crc_lt ys
    clear hrow2 ho2
    obtain ⟨s, hs⟩ : ∃ s, crc ys = s := ⟨_, rfl⟩
    rw [hs] at hcl ⊢
    have Hs := Lib.hid hs
    clear hs
    have hle : le4 (s : Int) = [(s : Int) % 256, (s : Int) / 256 % 256, (s : Int) / 65536 % 256, (s : Int) / 16777216] := le4_small (by omega) (by omega)
    have hsrc : Src (w1.alloc (.cells #[.int .u8 ((s : Int) % 256), .int .u8 ((s : Int) / 256 % 256), .int .u8 ((s : Int) / 65536 % 256), .int .u8 ((s : Int) / 16777216)] 5)) 1 (.slice (some ⟨w1.heap.size, 0, none⟩) 4 4) 4 ((le4 (s : Int)).map (Value.int .u8)) := by
      rw [hle]
      exact Src.few (w := w1) (t := 5) (xs := [.int .u8 ((s : Int) % 256), .int .u8 ((s : Int) / 256 % 256), .int .u8 ((s : Int) / 65536 % 256), .int .u8 ((s : Int) / 16777216)]) (by intro x hx; simp only [List.mem_cons, List.mem_nil_iff, or_false] at hx; rcases hx with rfl | rfl | rfl | rfl <;> rfl)
    have hoA : Only (fun _ => False) w1 (w1.alloc (.cells #[.int .u8 ((s : Int) % 256), .int .u8 ((s : Int) / 256 % 256), .int .u8 ((s : Int) / 65536 % 256), .int .u8 ((s : Int) / 16777216)] 5)) := (Only.refl _ _).alloc _
    have hrowA := (Hrow.out).only hoA (fun _ _ h => h)
    have hoW := (Ho.out).trans hoA (fun _ h => h.elim)
    have Hsrc := Lib.hid hsrc
    have HrowA := Lib.hid hrowA
    have HoW := Lib.hid hoW
    clear hle hsrc hoA hrowA hoW
    go_wp2_with (at_builtin; go_loud (refine wpList_append_src rfl (.tmp 29) (.tmp 41) 22 rfl 5 i0 (.int .u8 0) 1 1 Try.underlying22 hi hz0 hz1 hz2 rfl (by decide) w.heap.size (.slice ao2 ys.length cap2) ys.length (ys.map (Value.int .u8)) rfl (by exact HrowA.out) (by exact (HoW.out).size) (.slice (some ⟨w1.heap.size, 0, none⟩) 4 4) 4 ((le4 (s : Int)).map (Value.int .u8)) rfl (by exact Hsrc.out) (by unfold maxLen; omega) (by omega) ?_); intro v3 w3 hown3 hgrow3 hnew3)
    obtain ⟨hrow3, ho3⟩ := Row.push HrowA.out HoW.out (zs := le4 (s : Int)) hown3 hgrow3 hnew3
    clear hown3 hgrow3 hnew3 Hsrc HrowA HoW Hrow Ho
    go_wp2
    go_ret2
    refine ⟨v3, 0, rfl, ho3, .inl ⟨hlong, rfl, ?_⟩⟩
    unfold frame
    rw [Hys.out, Hs.out]
    exact hrow3
  · have hlz : (1048576 : Int) < (zs.length : Int) := by omega
    go_enter Try.func13, Try.ntmps13
    go_wp2
    go_ret2
    exact ⟨_, 2, rfl, Only.refl _ _, .inr ⟨by omega, rfl, rfl⟩⟩
end Go.Proofs.Ytfbkmgjgklkjiaa
