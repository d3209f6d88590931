/- The readers' small calls: what each answers and that each only reads. No condition. Numbers out of bytes and back: plain arithmetic on integers, no program. Reading a number: the program's readNumber at both kinds. No condition beyond a reader that was made. slices.Clone at bytes: a row of its own with the same bytes. The bound is the form's own reach (2^47 bytes). The writers' small calls. No condition beyond a writer that was made. -/
import Derived.Test.YtddjdlbmadlefaaGreatDoorRows
import Derived.Test.YtddjdlbmadlefaaGreatDoorSep
import Derived.Deep.QuietTactic
import Derived.BigQuiet
import Derived.Laws.BitsAllLaws
import Derived.Test.YtddjdlbmadlefaaGreatDoorMTxtPPolT
namespace Go.Proofs.YtddjdlbmadlefaaGreatDoor
open Go.RowKit

/-- A reader's three fields. -/
def RdCells (w : World) (rb : Nat) (ao : Option Addr) (n cap : Nat) (at_ : Nat) : Prop :=
  w.cell? ⟨rb, 0, none⟩ = some (.slice ao n cap) ∧ w.cell? ⟨rb, 1, none⟩ = some (.int .i64 at_) ∧ w.cell? ⟨rb, 2, none⟩ = some (.bool true)

set_option maxHeartbeats 400000 in
theorem rdLeft (rb : Nat) (ao : Option Addr) (n cap k : Nat) (w : World) (hn : n ≤ 9223372036854775807) (hk : k ≤ n) (h0 : w.cell? ⟨rb, 0, none⟩ = some (.slice ao n cap)) (h1 : w.cell? ⟨rb, 1, none⟩ = some (.int .i64 k)) (h2 : w.cell? ⟨rb, 2, none⟩ = some (.bool true)) :
    Calls Tryz.prog 315 #[.pointer (some ⟨rb, 0, none⟩)] w fun e w' => e = .returned (.int .i64 ((n : Int) - k)) ∧ ∃ nq, w' = w.drewN nq := by
  go_enter Tryz.func315, Tryz.ntmps315
  go_wp2
  go_quiet (fail)
  go_wp2
  go_ret
  exact ⟨rfl, _, rfl⟩

set_option maxHeartbeats 400000 in
theorem rdAt (rb : Nat) (k : Nat) (w : World) (h1 : w.cell? ⟨rb, 1, none⟩ = some (.int .i64 k)) (h2 : w.cell? ⟨rb, 2, none⟩ = some (.bool true)) :
    Calls Tryz.prog 301 #[.pointer (some ⟨rb, 0, none⟩)] w fun e w' => e = .returned (.int .i64 k) ∧ w = w' := by
  go_enter Tryz.func301, Tryz.ntmps301
  go_wp2
  go_ret
  exact ⟨rfl, rfl⟩

/-- Why a number of n bytes can't be read, where so many are left; and why a list can't. -/
def rdErr0 (n left : Int) : Int := if n < 1 ∨ 8 < n then 1 else if left < n then 3 else 0
def rdErr1 (n left : Int) : Int := if n < 0 then 1 else if left < n then 3 else 0

set_option maxHeartbeats 1000000 in
theorem rdRefusal0 (rb : Nat) (ao : Option Addr) (n cap k : Nat) (m : Int) (w : World) (hn : n ≤ 9223372036854775807) (hk : k ≤ n) (hm0 : -9223372036854775808 ≤ m) (hm1 : m ≤ 9223372036854775807)
    (h0 : w.cell? ⟨rb, 0, none⟩ = some (.slice ao n cap)) (h1 : w.cell? ⟨rb, 1, none⟩ = some (.int .i64 k)) (h2 : w.cell? ⟨rb, 2, none⟩ = some (.bool true)) :
    Calls Tryz.prog 307 #[.pointer (some ⟨rb, 0, none⟩), .int .i64 0, .int .i64 m] w fun e w' => e = .returned (.int .i64 (rdErr0 m ((n : Int) - k))) ∧ ∃ nq, w' = w.drewN nq := by
  go_enter Tryz.func307, Tryz.ntmps307
  go_wp2_with (first | (go_at_call 315; refine (rdLeft rb ao n cap k _ hn hk h0 h1 h2).mono ?_; rintro e w' ⟨rfl, nq, rfl⟩) | go_in)
  all_goals go_ret
  all_goals refine ⟨congrArg (fun z => Ending.returned (.int .i64 z)) ?_, ?_⟩
  all_goals first | exact ⟨_, rfl⟩ | exact ⟨0, rfl⟩ | skip
  all_goals unfold rdErr0
  all_goals try simp only [Bool.not_eq_true', Bool.not_eq_false', decide_eq_true_eq, decide_eq_false_iff_not] at *
  all_goals (repeat' split) <;> omega

set_option maxHeartbeats 1000000 in
theorem rdRefusal1 (rb : Nat) (ao : Option Addr) (n cap k : Nat) (m : Int) (w : World) (hn : n ≤ 9223372036854775807) (hk : k ≤ n) (hm0 : -9223372036854775808 ≤ m) (hm1 : m ≤ 9223372036854775807)
    (h0 : w.cell? ⟨rb, 0, none⟩ = some (.slice ao n cap)) (h1 : w.cell? ⟨rb, 1, none⟩ = some (.int .i64 k)) (h2 : w.cell? ⟨rb, 2, none⟩ = some (.bool true)) :
    Calls Tryz.prog 307 #[.pointer (some ⟨rb, 0, none⟩), .int .i64 1, .int .i64 m] w fun e w' => e = .returned (.int .i64 (rdErr1 m ((n : Int) - k))) ∧ ∃ nq, w' = w.drewN nq := by
  go_enter Tryz.func307, Tryz.ntmps307
  go_wp2_with (first | (go_at_call 315; refine (rdLeft rb ao n cap k _ hn hk h0 h1 h2).mono ?_; rintro e w' ⟨rfl, nq, rfl⟩) | go_in)
  all_goals go_ret
  all_goals refine ⟨congrArg (fun z => Ending.returned (.int .i64 z)) ?_, ?_⟩
  all_goals first | exact ⟨_, rfl⟩ | exact ⟨0, rfl⟩ | skip
  all_goals unfold rdErr1
  all_goals try simp only [Bool.not_eq_true', Bool.not_eq_false', decide_eq_true_eq, decide_eq_false_iff_not] at *
  all_goals (repeat' split) <;> omega

/-- next: the next m bytes, a part of the reader's own. -/
theorem rdNext (rb g n cap k m : Nat) (w : World) (hn : n ≤ cap) (hc : cap ≤ 9223372036854775807) (hk : k + m ≤ n) (hm : 1 ≤ m)
    (h0 : w.cell? ⟨rb, 0, none⟩ = some (.slice (some ⟨g, 0, none⟩) n cap)) (h1 : w.cell? ⟨rb, 1, none⟩ = some (.int .i64 k)) (f1 : w.frozen? ⟨rb, 1, none⟩ = false) :
    Calls Tryz.prog 308 #[.pointer (some ⟨rb, 0, none⟩), .int .i64 m] w fun e w' =>
      e = .returned (.slice (some ⟨g, k, none⟩) m (cap - k)) ∧ ∃ nq, w' = (w.setCell ⟨rb, 1, none⟩ (.int .i64 ((k : Int) + m))).drewN nq := by
  have hck : ¬ cap = k := by omega
  go_enter Tryz.func308, Tryz.ntmps308
  go_wp2
  go_quiet (fail)
  go_wp2
  go_ret
  exact ⟨congrArg (fun q => Ending.returned (.slice (some ⟨g, k, none⟩) q (cap - k))) (by omega : k + m - k = m), _, rfl⟩

/-- next of no bytes. -/
theorem rdNext0 (rb n cap k : Nat) (ao : Option Addr) (w : World) (hn : n ≤ cap) (hc : cap ≤ 9223372036854775807) (hk : k ≤ n)
    (h0 : w.cell? ⟨rb, 0, none⟩ = some (.slice ao n cap)) (h1 : w.cell? ⟨rb, 1, none⟩ = some (.int .i64 k)) (f1 : w.frozen? ⟨rb, 1, none⟩ = false) :
    Calls Tryz.prog 308 #[.pointer (some ⟨rb, 0, none⟩), .int .i64 0] w fun e w' =>
      (∃ ao', e = .returned (.slice ao' 0 (cap - k)) ∧ (ao' = none → ao = none)) ∧ ∃ nq, w' = (w.setCell ⟨rb, 1, none⟩ (.int .i64 (k : Int))).drewN nq := by
  go_enter Tryz.func308, Tryz.ntmps308
  go_wp2
  go_quiet (fail)
  go_wp2
  all_goals go_ret
  all_goals exact ⟨⟨_, rfl, by cases ao <;> simp⟩, _, rfl⟩
end Go.Proofs.YtddjdlbmadlefaaGreatDoor
namespace Go.Proofs.YtddjdlbmadlefaaGreatDoor
open Go.RowKit

theorem wrapU (n : Int) : IntKind.u64.wrap n = n % 18446744073709551616 := by simp [IntKind.wrap, IntKind.bits, IntKind.signed]
theorem wrapI (n : Int) : wrap64 n = (n + 9223372036854775808) % 18446744073709551616 - 9223372036854775808 := by unfold wrap64; rfl
theorem wrapI' (n : Int) : IntKind.i64.wrap n = wrap64 n := by rw [IntKind.wrap_i64, wrapI]

/-- Or of a multiple of 256 and a byte is their sum. -/
theorem bits_or_byte (k : IntKind) (hk : k.bits = 64) (x y : Int) (hx : x % 256 = 0) (h0 : 0 ≤ y) (h1 : y < 256) : bits .or k x y = k.wrap (x + y) := by
  have h2 : ∀ b, b = 64 → ((BitVec.ofInt b x ||| BitVec.ofInt b y).toNat : Int) = x % 18446744073709551616 + y := by
    intro b hb
    subst hb
    rw [BitVec.toNat_or]
    have hX : (BitVec.ofInt 64 x).toNat = (x % 18446744073709551616).toNat := by rw [BitVec.toNat_ofInt]; rfl
    have hY : (BitVec.ofInt 64 y).toNat = y.toNat := by rw [BitVec.toNat_ofInt]; congr 1; omega
    rw [hX, hY, nat_join 8 _ _ (by omega) (by omega)]
    omega
  have h3 : bits .or k x y = k.wrap (x % 18446744073709551616 + y) := by
    unfold bits
    simp only []
    rw [h2 _ hk]
  rw [h3]
  unfold IntKind.wrap
  simp only [hk]
  have : (x % 18446744073709551616 + y) % (2 ^ 64 : Int) = (x + y) % (2 ^ 64 : Int) := by omega
  rw [this]

/-- The number that bytes make, the highest first. -/
def valB (zs : List Int) : Int := zs.foldl (fun x c => x * 256 + c) 0
theorem valB_nil : valB [] = 0 := rfl
theorem valB_snoc (zs : List Int) (c : Int) : valB (zs ++ [c]) = valB zs * 256 + c := by simp [valB]
theorem valB_take (zs : List Int) (k : Nat) (hk : k < zs.length) : valB (zs.take (k + 1)) = valB (zs.take k) * 256 + zs.getD k 0 := by
  rw [List.take_succ_eq_append_getElem hk, valB_snoc]; simp [List.getD, hk]
theorem valB_lt : ∀ (n : Nat) (zs : List Int), zs.length = n → Bytish zs → 0 ≤ valB zs ∧ valB zs < 256 ^ n := by
  intro n
  induction n with
  | zero => intro zs h _; rw [List.eq_nil_of_length_eq_zero h]; simp [valB]
  | succ n ih =>
    intro zs h hz
    have hne : zs ≠ [] := by intro e; subst e; simp at h
    have he : zs = zs.dropLast ++ [zs.getLast hne] := (List.dropLast_concat_getLast hne).symm
    have h1 := ih zs.dropLast (by simp; omega) (fun z hz' => hz z ((List.dropLast_sublist zs).subset hz'))
    have h2 := hz (zs.getLast hne) (List.getLast_mem hne)
    unfold IsByte at h2
    rw [he, valB_snoc]
    have : (256 : Int) ^ (n + 1) = 256 ^ n * 256 := by rw [Int.pow_succ]
    rw [this]
    omega

theorem wrapU0 : IntKind.u64.wrap 0 = 0 := by rw [wrapU]; rfl
theorem wrapI0 : wrap64 0 = 0 := by rw [wrapI]; rfl
/-- What the program keeps of a number in n bytes. -/
def cutUv (n : Nat) (x : Int) : Int := IntKind.u64.wrap (x * 2 ^ (8 * (8 - n))) / 2 ^ (8 * (8 - n))
def cutIv (n : Nat) (x : Int) : Int := wrap64 (x * 2 ^ (8 * (8 - n))) / 2 ^ (8 * (8 - n))
/-- Two's complement of n bytes. -/
def sgn (n : Nat) (v : Int) : Int := if 2 ^ (8 * n - 1) ≤ v then v - 2 ^ (8 * n) else v

theorem width_cases {n : Nat} (h1 : 1 ≤ n) (h8 : n ≤ 8) : n = 1 ∨ n = 2 ∨ n = 3 ∨ n = 4 ∨ n = 5 ∨ n = 6 ∨ n = 7 ∨ n = 8 := by omega

theorem cutUv_eq (n : Nat) (h1 : 1 ≤ n) (h8 : n ≤ 8) (x : Int) : cutUv n x = x % 2 ^ (8 * n) := by
  unfold cutUv
  rw [wrapU]
  rcases width_cases h1 h8 with rfl | rfl | rfl | rfl | rfl | rfl | rfl | rfl <;> simp only [Nat.reduceSub, Nat.reduceMul, Int.reducePow] <;> omega
theorem cutIv_eq (n : Nat) (h1 : 1 ≤ n) (h8 : n ≤ 8) (x : Int) : cutIv n x = (x + 2 ^ (8 * n - 1)) % 2 ^ (8 * n) - 2 ^ (8 * n - 1) := by
  unfold cutIv
  rw [wrapI]
  rcases width_cases h1 h8 with rfl | rfl | rfl | rfl | rfl | rfl | rfl | rfl <;> simp only [Nat.reduceSub, Nat.reduceMul, Int.reducePow] <;> omega

theorem readU_val (n : Nat) (h1 : 1 ≤ n) (h8 : n ≤ 8) (v : Int) (h0 : 0 ≤ v) (hv : v < 256 ^ n) : cutUv n (IntKind.u64.wrap v) = v := by
  rw [cutUv_eq n h1 h8, wrapU]
  rcases width_cases h1 h8 with rfl | rfl | rfl | rfl | rfl | rfl | rfl | rfl <;> simp only [Nat.reduceMul, Int.reducePow] at * <;> omega
theorem readI_val (n : Nat) (h1 : 1 ≤ n) (h8 : n ≤ 8) (v : Int) (h0 : 0 ≤ v) (hv : v < 256 ^ n) : cutIv n (wrap64 v) = sgn n v := by
  rw [cutIv_eq n h1 h8, wrapI]
  unfold sgn
  rcases width_cases h1 h8 with rfl | rfl | rfl | rfl | rfl | rfl | rfl | rfl <;> simp only [Nat.reduceMul, Nat.reduceSub, Int.reducePow] at * <;> split <;> omega
theorem stepU (x v c : Int) (hx : x = IntKind.u64.wrap v) (h0 : 0 ≤ c) (h1 : c < 256) : bits .or .u64 (IntKind.u64.wrap (x * 256)) c = IntKind.u64.wrap (v * 256 + c) := by
  rw [bits_or_byte .u64 rfl _ _ (by rw [wrapU]; omega) h0 h1, hx]
  simp only [wrapU]
  omega
theorem stepI (x v c : Int) (hx : x = wrap64 v) (h0 : 0 ≤ c) (h1 : c < 256) : bits .or .i64 (wrap64 (x * 256)) c = wrap64 (v * 256 + c) := by
  rw [bits_or_byte .i64 rfl _ _ (by rw [wrapI]; omega) h0 h1, hx, wrapI']
  simp only [wrapI]
  omega
/-- Byte i of a number (from the lowest), and the first j of n bytes, the highest first. -/
def dig (x : Int) (i : Nat) : Int := IntKind.u8.wrap (x / 2 ^ (8 * i))
def digsTo (n : Nat) (x : Int) (j : Nat) : List Int := (List.range j).map (fun t => dig x (n - 1 - t))
def digs (n : Nat) (x : Int) : List Int := digsTo n x n
theorem digsTo_zero (n : Nat) (x : Int) : digsTo n x 0 = [] := rfl
theorem digsTo_succ (n : Nat) (x : Int) (j : Nat) : digsTo n x (j + 1) = digsTo n x j ++ [dig x (n - 1 - j)] := by simp [digsTo, List.range_succ]
theorem digsTo_length (n : Nat) (x : Int) (j : Nat) : (digsTo n x j).length = j := by simp [digsTo]
theorem digs_length (n : Nat) (x : Int) : (digs n x).length = n := digsTo_length n x n
theorem dig_byte (x : Int) (i : Nat) : IsByte (dig x i) := by
  unfold IsByte dig
  rw [IntKind.wrap_u8]
  omega
theorem digsTo_bytish (n : Nat) (x : Int) (j : Nat) : Bytish (digsTo n x j) := by
  intro z hz
  simp only [digsTo, List.mem_map] at hz
  obtain ⟨t, _, rfl⟩ := hz
  exact dig_byte _ _

end Go.Proofs.YtddjdlbmadlefaaGreatDoor
namespace Go.Proofs.YtddjdlbmadlefaaGreatDoor
open Go.RowKit

theorem cutU (x : Int) (n : Nat) (w : World) (hn : 1 ≤ n) (hn' : n ≤ 8) :
    Calls Tryz.prog 309 #[.int .u64 x, .int .i64 n] w fun e w' => e = .returned (.int .u64 (cutUv n x)) ∧ w = w' := by
  go_enter Tryz.func309, Tryz.ntmps309
  go_wp2
  go_ret
  exact ⟨rfl, rfl⟩
theorem cutI (x : Int) (n : Nat) (w : World) (hn : 1 ≤ n) (hn' : n ≤ 8) :
    Calls Tryz.prog 318 #[.int .i64 x, .int .i64 n] w fun e w' => e = .returned (.int .i64 (cutIv n x)) ∧ w = w' := by
  go_enter Tryz.func318, Tryz.ntmps318
  go_wp2
  go_ret
  exact ⟨rfl, rfl⟩

/-- A reader's place has been set; nothing else. -/
def Moved (rb : Nat) (k : Int) (w w' : World) : Prop := ∃ nq, w' = (w.setCell ⟨rb, 1, none⟩ (.int .i64 k)).drewN nq
theorem Moved.drawn {rb : Nat} {k : Int} {w w' w'' : World} (h : Moved rb k w w') (h' : Drawn w' w'') : Moved rb k w w'' := by
  obtain ⟨a, rfl⟩ := h; obtain ⟨b, rfl⟩ := h'; exact ⟨a + b, by simp [World.drewN, Nat.add_assoc]⟩
theorem Moved.after {rb : Nat} {k : Int} {w w' w'' : World} (h : Drawn w w') (h' : Moved rb k w' w'') : Moved rb k w w'' := by
  obtain ⟨a, rfl⟩ := h; obtain ⟨b, rfl⟩ := h'; exact ⟨a + b, by simp [World.drewN, World.setCell, Nat.add_assoc]⟩
theorem Moved.other {rb : Nat} {k : Int} {w w' : World} (h : Moved rb k w w') {a : Addr} (ha : a ≠ ⟨rb, 1, none⟩) : w'.cell? a = w.cell? a := by
  obtain ⟨n, rfl⟩ := h
  show (w.setCell _ _).cell? a = _
  exact World.cell?_setCell_other _ _ _ _ (fun e => ha e.symm)
theorem Moved.same {rb : Nat} {k : Int} {u : Value} {w w' : World} (h : Moved rb k w w') (hu : w.cell? ⟨rb, 1, none⟩ = some u) : w'.cell? ⟨rb, 1, none⟩ = some (.int .i64 k) := by
  obtain ⟨n, rfl⟩ := h
  show (w.setCell _ _).cell? _ = _
  exact World.cell?_setCell_same _ _ _ hu
theorem Moved.frozen {rb : Nat} {k : Int} {w w' : World} (h : Moved rb k w w') (a : Addr) : w'.frozen? a = w.frozen? a := by
  obtain ⟨n, rfl⟩ := h
  show (w.setCell _ _).frozen? _ = _
  simp
theorem Moved.only {rb : Nat} {k : Int} {w w' : World} (h : Moved rb k w w') : Only (fun b => b = rb) w w' := by
  obtain ⟨n, rfl⟩ := h
  exact (Only.setCell (S := fun b => b = rb) (Only.refl _ _) (fun _ => rfl) _).drewN n

set_option maxHeartbeats 1000000 in
theorem readU (rb g n cap k m : Nat) (zs : List Int) (w : World) (hn : n ≤ cap) (hc : cap ≤ 9223372036854775807) (hk : k + m ≤ n) (hm : 1 ≤ m) (hm8 : m ≤ 8) (hl : zs.length = n) (hz : Bytish zs) (hgr : g ≠ rb)
    (h0 : w.cell? ⟨rb, 0, none⟩ = some (.slice (some ⟨g, 0, none⟩) n cap)) (h1 : w.cell? ⟨rb, 1, none⟩ = some (.int .i64 k)) (h2 : w.cell? ⟨rb, 2, none⟩ = some (.bool true)) (f1 : w.frozen? ⟨rb, 1, none⟩ = false)
    (hb : ∀ j, j < n → w.cell? ⟨g, j, none⟩ = some (.int .u8 (zs.getD j 0))) :
    Calls Tryz.prog 299 #[.pointer (some ⟨rb, 0, none⟩), .int .i64 m] w fun e w' =>
      e = .returned (.tuple #[.int .u64 (valB ((zs.drop k).take m)), .int .i64 0]) ∧ Moved rb ((k : Int) + m) w w' := by
  have he : rdErr0 m ((n : Int) - k) = 0 := by unfold rdErr0; rw [if_neg (by omega), if_neg (by omega)]
  go_enter Tryz.func299, Tryz.ntmps299
  go_wp2_with (first | (go_at_call 307; go_loud (refine (rdRefusal0 rb _ n cap k m _ (by omega) (by omega) (by omega) (by omega) h0 h1 h2).mono ?_); rintro e w' ⟨rfl, nq, rfl⟩) | (go_at_call 308; go_loud (refine (rdNext rb g n cap k m _ hn hc hk hm (by exact h0) (by exact h1) (by exact f1)).mono ?_); rintro e w' ⟨rfl, hmv⟩))
  have hmv2 : Moved rb ((k : Int) + m) w w' := Moved.after ⟨nq, rfl⟩ hmv
  clear hmv
  have hcell : ∀ j, j < m → w'.cell? ⟨g, k + j, none⟩ = some (.int .u8 ((zs.drop k).getD j 0)) := by
    intro j hj
    rw [hmv2.other (by intro e; injection e with e1; exact hgr e1), hb (k + j) (by omega)]
    simp [List.getD]
  have hlen : ((zs.drop k).take m).length = m := by simp; omega
  have hL : m ≤ (zs.drop k).length := by simp; omega
  have hz' : ∀ j, j < m → 0 ≤ (zs.drop k).getD j 0 ∧ (zs.drop k).getD j 0 < 256 := fun j hj => (hz.drop k).getD (by omega)
  have hval := valB_lt m ((zs.drop k).take m) hlen ((hz.drop k).take m)
  have Hfin := Lib.hid (readU_val m hm hm8 _ hval.1 hval.2)
  generalize hys : zs.drop k = ys at *
  have Hys := Lib.hid hys
  clear hval hlen hys
  go_loop [7, 20] (fun x i => ∃ j : Nat, j ≤ m ∧ i = .int .i64 j ∧ x = .int .u64 (IntKind.u64.wrap (valB (ys.take j)))) (fun _ i => m - (intOf i).toNat)
  case atStart => exact ⟨0, Nat.zero_le _, rfl, by simp [valB, wrapU0]⟩
  case round =>
    obtain ⟨j, hj, rfl, rfl⟩ := hrel
    by_cases hlt : j < m
    · have hc1 := hcell j hlt
      have hz1 := hz' j hlt
      have HS := Lib.hid (stepU _ (valB (ys.take j)) (ys.getD j 0) rfl hz1.1 hz1.2)
      have HT := Lib.hid (valB_take ys j (by omega))
      clear hcell hz'
      generalize valB (ys.take j) = v at *
      generalize ys.getD j 0 = c at *
      go_wp2
      go_round
      case rel => exact ⟨j + 1, by omega, by go_num, by rw [HT.out, ← HS.out]⟩
      case measure => simp [intOf]; omega
    · have hjm : j = m := by omega
      subst hjm
      go_wp2_with (first | (go_at_call 309; go_loud (refine (cutU _ j _ hm hm8).mono ?_); rintro e w' ⟨rfl, rfl⟩))
      go_ret2
      refine ⟨?_, hmv2⟩
      show Ending.returned (.tuple #[.int .u64 (cutUv j (IntKind.u64.wrap (valB (ys.take j)))), .int .i64 0]) = _
      rw [Hfin.out, Hys.out]

set_option maxHeartbeats 1000000 in
theorem readUErr (rb n cap k : Nat) (m : Int) (ao : Option Addr) (w : World) (hn : n ≤ cap) (hc : cap ≤ 9223372036854775807) (hk : k ≤ n) (hm0 : -9223372036854775808 ≤ m) (hm1 : m ≤ 9223372036854775807)
    (h0 : w.cell? ⟨rb, 0, none⟩ = some (.slice ao n cap)) (h1 : w.cell? ⟨rb, 1, none⟩ = some (.int .i64 k)) (h2 : w.cell? ⟨rb, 2, none⟩ = some (.bool true)) (he : rdErr0 m ((n : Int) - k) ≠ 0) :
    Calls Tryz.prog 299 #[.pointer (some ⟨rb, 0, none⟩), .int .i64 m] w fun e w' =>
      e = .returned (.tuple #[.int .u64 0, .int .i64 (rdErr0 m ((n : Int) - k))]) ∧ Drawn w w' := by
  have hne : (rdErr0 m ((n : Int) - k) == 0) = false := by simpa using he
  have hne' : (rdErr0 m ((n : Int) - k) != 0) = true := by simpa using he
  clear he
  go_enter Tryz.func299, Tryz.ntmps299
  go_wp2_with (first | (go_at_call 307; go_loud (refine (rdRefusal0 rb _ n cap k m _ (by omega) (by omega) (by omega) (by omega) h0 h1 h2).mono ?_); rintro e w' ⟨rfl, nq, rfl⟩))
  go_ret2
  exact ⟨rfl, nq, rfl⟩

set_option maxHeartbeats 1000000 in
theorem readI (rb g n cap k m : Nat) (zs : List Int) (w : World) (hn : n ≤ cap) (hc : cap ≤ 9223372036854775807) (hk : k + m ≤ n) (hm : 1 ≤ m) (hm8 : m ≤ 8) (hl : zs.length = n) (hz : Bytish zs) (hgr : g ≠ rb)
    (h0 : w.cell? ⟨rb, 0, none⟩ = some (.slice (some ⟨g, 0, none⟩) n cap)) (h1 : w.cell? ⟨rb, 1, none⟩ = some (.int .i64 k)) (h2 : w.cell? ⟨rb, 2, none⟩ = some (.bool true)) (f1 : w.frozen? ⟨rb, 1, none⟩ = false)
    (hb : ∀ j, j < n → w.cell? ⟨g, j, none⟩ = some (.int .u8 (zs.getD j 0))) :
    Calls Tryz.prog 316 #[.pointer (some ⟨rb, 0, none⟩), .int .i64 m] w fun e w' =>
      e = .returned (.tuple #[.int .i64 (sgn m (valB ((zs.drop k).take m))), .int .i64 0]) ∧ Moved rb ((k : Int) + m) w w' := by
  have he : rdErr0 m ((n : Int) - k) = 0 := by unfold rdErr0; rw [if_neg (by omega), if_neg (by omega)]
  go_enter Tryz.func316, Tryz.ntmps316
  go_wp2_with (first | (go_at_call 307; go_loud (refine (rdRefusal0 rb _ n cap k m _ (by omega) (by omega) (by omega) (by omega) h0 h1 h2).mono ?_); rintro e w' ⟨rfl, nq, rfl⟩) | (go_at_call 308; go_loud (refine (rdNext rb g n cap k m _ hn hc hk hm (by exact h0) (by exact h1) (by exact f1)).mono ?_); rintro e w' ⟨rfl, hmv⟩))
  have hmv2 : Moved rb ((k : Int) + m) w w' := Moved.after ⟨nq, rfl⟩ hmv
  clear hmv
  have hcell : ∀ j, j < m → w'.cell? ⟨g, k + j, none⟩ = some (.int .u8 ((zs.drop k).getD j 0)) := by
    intro j hj
    rw [hmv2.other (by intro e; injection e with e1; exact hgr e1), hb (k + j) (by omega)]
    simp [List.getD]
  have hlen : ((zs.drop k).take m).length = m := by simp; omega
  have hL : m ≤ (zs.drop k).length := by simp; omega
  have hz' : ∀ j, j < m → 0 ≤ (zs.drop k).getD j 0 ∧ (zs.drop k).getD j 0 < 256 := fun j hj => (hz.drop k).getD (by omega)
  have hval := valB_lt m ((zs.drop k).take m) hlen ((hz.drop k).take m)
  have Hfin := Lib.hid (readI_val m hm hm8 _ hval.1 hval.2)
  generalize hys : zs.drop k = ys at *
  have Hys := Lib.hid hys
  clear hval hlen hys
  go_loop [7, 20] (fun x i => ∃ j : Nat, j ≤ m ∧ i = .int .i64 j ∧ x = .int .i64 (wrap64 (valB (ys.take j)))) (fun _ i => m - (intOf i).toNat)
  case atStart => exact ⟨0, Nat.zero_le _, rfl, by simp [valB, wrapI0]⟩
  case round =>
    obtain ⟨j, hj, rfl, rfl⟩ := hrel
    by_cases hlt : j < m
    · have hc1 := hcell j hlt
      have hz1 := hz' j hlt
      have HS := Lib.hid (stepI _ (valB (ys.take j)) (ys.getD j 0) rfl hz1.1 hz1.2)
      have HT := Lib.hid (valB_take ys j (by omega))
      clear hcell hz'
      generalize valB (ys.take j) = v at *
      generalize ys.getD j 0 = c at *
      go_wp2
      go_round
      case rel => exact ⟨j + 1, by omega, by go_num, by rw [HT.out, ← HS.out]⟩
      case measure => simp [intOf]; omega
    · have hjm : j = m := by omega
      subst hjm
      go_wp2_with (first | (go_at_call 318; go_loud (refine (cutI _ j _ hm hm8).mono ?_); rintro e w' ⟨rfl, rfl⟩))
      go_ret2
      refine ⟨?_, hmv2⟩
      show Ending.returned (.tuple #[.int .i64 (cutIv j (wrap64 (valB (ys.take j)))), .int .i64 0]) = _
      rw [Hfin.out, Hys.out]

set_option maxHeartbeats 1000000 in
theorem readIErr (rb n cap k : Nat) (m : Int) (ao : Option Addr) (w : World) (hn : n ≤ cap) (hc : cap ≤ 9223372036854775807) (hk : k ≤ n) (hm0 : -9223372036854775808 ≤ m) (hm1 : m ≤ 9223372036854775807)
    (h0 : w.cell? ⟨rb, 0, none⟩ = some (.slice ao n cap)) (h1 : w.cell? ⟨rb, 1, none⟩ = some (.int .i64 k)) (h2 : w.cell? ⟨rb, 2, none⟩ = some (.bool true)) (he : rdErr0 m ((n : Int) - k) ≠ 0) :
    Calls Tryz.prog 316 #[.pointer (some ⟨rb, 0, none⟩), .int .i64 m] w fun e w' =>
      e = .returned (.tuple #[.int .i64 0, .int .i64 (rdErr0 m ((n : Int) - k))]) ∧ Drawn w w' := by
  have hne : (rdErr0 m ((n : Int) - k) == 0) = false := by simpa using he
  have hne' : (rdErr0 m ((n : Int) - k) != 0) = true := by simpa using he
  clear he
  go_enter Tryz.func316, Tryz.ntmps316
  go_wp2_with (first | (go_at_call 307; go_loud (refine (rdRefusal0 rb _ n cap k m _ (by omega) (by omega) (by omega) (by omega) h0 h1 h2).mono ?_); rintro e w' ⟨rfl, nq, rfl⟩))
  go_ret2
  exact ⟨rfl, nq, rfl⟩
end Go.Proofs.YtddjdlbmadlefaaGreatDoor
namespace Go.Proofs.YtddjdlbmadlefaaGreatDoor
open Go.RowKit


set_option maxHeartbeats 1000000 in
theorem clone (v : Value) (zs : List Int) (w : World) (hb : Bytes w v zs) (hl : zs.length ≤ 140737488355328) :
    Calls Tryz.prog 298 #[v] w fun e w' => ∃ v', e = .returned v' ∧ w'.ownsRow w.heap.size 5 1 v' zs.length (zs.map (Value.int .u8)) ∧ Below w.heap.size w w' := by
  have hnil := fun (w : World) (a : Option Addr) (n c : Nat) => Lib.run_eql_slice_nil (P := Tryz.prog) w 67 5 a n c 0 0 Tryz.underlying67
  obtain ⟨i0, hi, hz0, hz1, hz2⟩ := info_parts info_u8
  obtain ⟨ao, cap, rfl, h1, h2, h3, h4, h5⟩ := hb
  cases ao with
  | none =>
    have : cap = 0 := h3 rfl
    subst this
    have hz : zs = [] := List.eq_nil_of_length_eq_zero (by omega)
    subst hz
    go_enter Tryz.func298, Tryz.ntmps298
    go_wp2
    go_ret
    exact ⟨_, rfl, World.ownsRow_nil _ _ _ _, Below.refl _ _⟩
  | some x =>
    have h8 := news_bytes (h5 x rfl)
    have H8 := Lib.hid h8
    clear h5 h3 h8
    go_enter Tryz.func298, Tryz.ntmps298
    go_wp2_with (at_builtin; refine wpList_append_own _ rfl (.tmp 5) (.tmp 6) 67 rfl w.heap.size 5 i0 (.int .u8 0) 1 1 Tryz.underlying67 hi hz0 hz1 hz2 rfl (by decide) (.slice (some ⟨w.heap.size, 0, none⟩) 0 0) 0 [] rfl (by exact World.ownsRow_made _ #[] 0 (Nat.le_refl _) (Nat.zero_le _) rfl) x zs.length cap (zs.map (Value.int .u8)) rfl (by simp) (news_alloc _ H8.out) (ints_oneCell _ _) (by omega) (by omega) (by simp) ?next)
    case next =>
      intro v' w' hown hgrow _
      have hbel : Below w.heap.size w w' := ((Below.refl _ _).alloc (Nat.le_refl _) _).grown hgrow (by simp) (fun k h => by simp [Value.ownBlock] at h; omega)
      clear hgrow
      go_wp2
      go_ret
      exact ⟨_, rfl, by simpa using hown, hbel⟩
end Go.Proofs.YtddjdlbmadlefaaGreatDoor
namespace Go.Proofs.YtddjdlbmadlefaaGreatDoor
open Go.RowKit

/-- The blocks that a writer's calls may write. -/
def WrS (wb : Nat) (sv : Value) : Nat → Prop := fun k => k = wb ∨ sv.ownBlock = some k
/-- Does a number fit n bytes: of either kind. -/
def fitU (n x : Int) : Bool := decide (1 ≤ n) && (decide (n ≤ 8) && (cutUv n.toNat x == x))
def fitI (n x : Int) : Bool := decide (1 ≤ n) && (decide (n ≤ 8) && (cutIv n.toNat x == x))

/-- Why n bytes can't be written, where there is so much room. -/
def wrErr (right : Bool) (n room : Int) : Int := if right = false then 1 else if room < n then 2 else 0

end Go.Proofs.YtddjdlbmadlefaaGreatDoor
