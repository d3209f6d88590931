/- Reading a number: the program's readNumber at both kinds. No condition beyond a reader that was made. -/
import Derived.Test.YtadgbkjjeigpjaaDoorWireA
import Derived.Test.YtadgbkjjeigpjaaDoorMem
import Derived.Test.YtadgbkjjeigpjaaDoorNum
namespace Go.Proofs.YtadgbkjjeigpjaaDoor
open Go.RowKit

theorem cutU (x : Int) (n : Nat) (w : World) (hn : 1 ≤ n) (hn' : n ≤ 8) :
    Calls Tryd.prog 81 #[.int .u64 x, .int .i64 n] w fun e w' => e = .returned (.int .u64 (cutUv n x)) ∧ w = w' := by
  go_enter Tryd.func81, Tryd.ntmps81
  go_wp2
  go_ret
  exact ⟨rfl, rfl⟩
/-- A reader's place has been set; nothing else. -/
def Moved (rb : Nat) (k : Int) (w w' : World) : Prop := ∃ nq, w' = (w.setCell ⟨rb, 1, none⟩ (.int .i64 k)).drewN nq
theorem Moved.drawn {rb : Nat} {k : Int} {w w' w'' : World} (h : Moved rb k w w') (h' : Drawn w' w'') : Moved rb k w w'' := by
  obtain ⟨a, rfl⟩ := h; obtain ⟨b, rfl⟩ := h'; exact ⟨a + b, by simp [World.drewN, Nat.add_assoc]⟩
theorem Moved.after {rb : Nat} {k : Int} {w w' w'' : World} (h : Drawn w w') (h' : Moved rb k w' w'') : Moved rb k w w'' := by
  obtain ⟨a, rfl⟩ := h; obtain ⟨b, rfl⟩ := h'; exact ⟨a + b, by simp [World.drewN, World.setCell, Nat.add_assoc]⟩
theorem Moved.other {rb : Nat} {k : Int} {w w' : World} (h : Moved rb k w w') {a : Addr} (ha : a ≠ ⟨rb, 1, none⟩) : w'.cell? a = w.cell? a := by
  obtain ⟨n, rfl⟩ := h
  show (w.setCell _ _).cell? a = _
  exact World.cell?_setCell_other _ _ _ _ (fun e => ha e.symm)
theorem Moved.same {rb : Nat} {k : Int} {u : Value} {w w' : World} (h : Moved rb k w w') (hu : w.cell? ⟨rb, 1, none⟩ = some u) : w'.cell? ⟨rb, 1, none⟩ = some (.int .i64 k) := by
  obtain ⟨n, rfl⟩ := h
  show (w.setCell _ _).cell? _ = _
  exact World.cell?_setCell_same _ _ _ hu
theorem Moved.frozen {rb : Nat} {k : Int} {w w' : World} (h : Moved rb k w w') (a : Addr) : w'.frozen? a = w.frozen? a := by
  obtain ⟨n, rfl⟩ := h
  show (w.setCell _ _).frozen? _ = _
  simp
theorem Moved.only {rb : Nat} {k : Int} {w w' : World} (h : Moved rb k w w') : Only (fun b => b = rb) w w' := by
  obtain ⟨n, rfl⟩ := h
  exact (Only.setCell (S := fun b => b = rb) (Only.refl _ _) (fun _ => rfl) _).drewN n

set_option maxHeartbeats 1000000 in
theorem readU (rb g n cap k m : Nat) (zs : List Int) (w : World) (hn : n ≤ cap) (hc : cap ≤ 9223372036854775807) (hk : k + m ≤ n) (hm : 1 ≤ m) (hm8 : m ≤ 8) (hl : zs.length = n) (hz : Bytish zs) (hgr : g ≠ rb)
    (h0 : w.cell? ⟨rb, 0, none⟩ = some (.slice (some ⟨g, 0, none⟩) n cap)) (h1 : w.cell? ⟨rb, 1, none⟩ = some (.int .i64 k)) (h2 : w.cell? ⟨rb, 2, none⟩ = some (.bool true)) (f1 : w.frozen? ⟨rb, 1, none⟩ = false)
    (hb : ∀ j, j < n → w.cell? ⟨g, j, none⟩ = some (.int .u8 (zs.getD j 0))) :
    Calls Tryd.prog 73 #[.pointer (some ⟨rb, 0, none⟩), .int .i64 m] w fun e w' =>
      e = .returned (.tuple #[.int .u64 (valB ((zs.drop k).take m)), .int .i64 0]) ∧ Moved rb ((k : Int) + m) w w' := by
  have he : rdErr0 m ((n : Int) - k) = 0 := by unfold rdErr0; rw [if_neg (by omega), if_neg (by omega)]
  go_enter Tryd.func73, Tryd.ntmps73
  go_wp2_with (first | (go_at_call 82; go_loud (refine (rdRefusal0 rb _ n cap k m _ (by omega) (by omega) (by omega) (by omega) h0 h1 h2).mono ?_); rintro e w' ⟨rfl, nq, rfl⟩) | (go_at_call 83; go_loud (refine (rdNext rb g n cap k m _ hn hc hk hm (by exact h0) (by exact h1) (by exact f1)).mono ?_); rintro e w' ⟨rfl, hmv⟩))
  have hmv2 : Moved rb ((k : Int) + m) w w' := Moved.after ⟨nq, rfl⟩ hmv
  clear hmv
  have hcell : ∀ j, j < m → w'.cell? ⟨g, k + j, none⟩ = some (.int .u8 ((zs.drop k).getD j 0)) := by
    intro j hj
    rw [hmv2.other (by intro e; injection e with e1; exact hgr e1), hb (k + j) (by omega)]
    simp [List.getD]
  have hlen : ((zs.drop k).take m).length = m := by simp; omega
  have hL : m ≤ (zs.drop k).length := by simp; omega
  have hz' : ∀ j, j < m → 0 ≤ (zs.drop k).getD j 0 ∧ (zs.drop k).getD j 0 < 256 := fun j hj => (hz.drop k).getD (by omega)
  have hval := valB_lt m ((zs.drop k).take m) hlen ((hz.drop k).take m)
  have Hfin := Lib.hid (readU_val m hm hm8 _ hval.1 hval.2)
  generalize hys : zs.drop k = ys at *
  have Hys := Lib.hid hys
  clear hval hlen hys
  go_loop [7, 20] (fun x i => ∃ j : Nat, j ≤ m ∧ i = .int .i64 j ∧ x = .int .u64 (IntKind.u64.wrap (valB (ys.take j)))) (fun _ i => m - (intOf i).toNat)
  case atStart => exact ⟨0, Nat.zero_le _, rfl, by simp [valB, wrapU0]⟩
  case round =>
    obtain ⟨j, hj, rfl, rfl⟩ := hrel
    by_cases hlt : j < m
    · have hc1 := hcell j hlt
      have hz1 := hz' j hlt
      have HS := Lib.hid (stepU _ (valB (ys.take j)) (ys.getD j 0) rfl hz1.1 hz1.2)
      have HT := Lib.hid (valB_take ys j (by omega))
      clear hcell hz'
      generalize valB (ys.take j) = v at *
      generalize ys.getD j 0 = c at *
      go_wp2
      go_round
      case rel => exact ⟨j + 1, by omega, by go_num, by rw [HT.out, ← HS.out]⟩
      case measure => simp [intOf]; omega
    · have hjm : j = m := by omega
      subst hjm
      go_wp2_with (first | (go_at_call 81; go_loud (refine (cutU _ j _ hm hm8).mono ?_); rintro e w' ⟨rfl, rfl⟩))
      go_ret2
      refine ⟨?_, hmv2⟩
      show Ending.returned (.tuple #[.int .u64 (cutUv j (IntKind.u64.wrap (valB (ys.take j)))), .int .i64 0]) = _
      rw [Hfin.out, Hys.out]

set_option maxHeartbeats 1000000 in
theorem readUErr (rb n cap k : Nat) (m : Int) (ao : Option Addr) (w : World) (hn : n ≤ cap) (hc : cap ≤ 9223372036854775807) (hk : k ≤ n) (hm0 : -9223372036854775808 ≤ m) (hm1 : m ≤ 9223372036854775807)
    (h0 : w.cell? ⟨rb, 0, none⟩ = some (.slice ao n cap)) (h1 : w.cell? ⟨rb, 1, none⟩ = some (.int .i64 k)) (h2 : w.cell? ⟨rb, 2, none⟩ = some (.bool true)) (he : rdErr0 m ((n : Int) - k) ≠ 0) :
    Calls Tryd.prog 73 #[.pointer (some ⟨rb, 0, none⟩), .int .i64 m] w fun e w' =>
      e = .returned (.tuple #[.int .u64 0, .int .i64 (rdErr0 m ((n : Int) - k))]) ∧ Drawn w w' := by
  have hne : (rdErr0 m ((n : Int) - k) == 0) = false := by simpa using he
  have hne' : (rdErr0 m ((n : Int) - k) != 0) = true := by simpa using he
  clear he
  go_enter Tryd.func73, Tryd.ntmps73
  go_wp2_with (first | (go_at_call 82; go_loud (refine (rdRefusal0 rb _ n cap k m _ (by omega) (by omega) (by omega) (by omega) h0 h1 h2).mono ?_); rintro e w' ⟨rfl, nq, rfl⟩))
  go_ret2
  exact ⟨rfl, nq, rfl⟩

end Go.Proofs.YtadgbkjjeigpjaaDoor
