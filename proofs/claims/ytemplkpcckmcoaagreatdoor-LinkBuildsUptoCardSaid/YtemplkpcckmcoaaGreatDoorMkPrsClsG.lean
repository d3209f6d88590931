import Derived.Test.YtemplkpcckmcoaaGreatDoorMkWireBPolG
import Derived.Test.YtemplkpcckmcoaaGreatDoorMkTxtEPolC
import Derived.Test.YtemplkpcckmcoaaGreatDoorMkPolDLnkU
import Derived.Test.YtemplkpcckmcoaaGreatDoorMkPolAPolV
import Derived.WalkLawsBesides
import Derived.Defers
import Derived.Recover
namespace Go.Proofs.YtemplkpcckmcoaaGreatDoor
set_option maxHeartbeats 4000000
open Lib (hid)
open Go.RowKit
set_option linter.unusedVariables false
set_option linter.unusedSimpArgs false
section
variable (rb : Nat) (sv : Value) (zs : List Int) (k n : Nat) (w : World)
end
abbrev pan (z : Int) : Ending := .panicked [{ v := .iface 24 (.int .i64 z), recovered := false }]
abbrev Pr (α : Type) := List Int → Nat → Except Int (α × Nat)
def retP {α : Type} (a : α) : Pr α := fun _ k => .ok (a, k)
def failP {α : Type} (e : Int) : Pr α := fun _ _ => .error e
def bindP {α β : Type} (p : Pr α) (f : α → Pr β) : Pr β := fun zs k => match p zs k with | .ok (a, k') => f a zs k' | .error e => .error e
def numP (n : Nat) : Pr Int := fun zs k => if k + n ≤ zs.length then .ok (uAt zs k n, k + n) else .error 3
def bytesP (n : Nat) : Pr (List Int) := fun zs k => if k + n ≤ zs.length then .ok ((zs.drop k).take n, k + n) else .error 3
def atP : Pr Nat := fun _ k => .ok (k, k)
def listP {α : Type} (p : Pr α) : Nat → Pr (List α)
  | 0 => retP []
  | n + 1 => bindP p fun a => bindP (listP p n) fun l => retP (a :: l)
abbrev unitV : Unit → Value := fun _ => .tuple #[]
def ListTo {α : Type} (p : Pr α) (n : Nat) (zs : List Int) (k : Nat) (l : List α) (k' : Nat) : Prop := listP p n zs k = bindP (listP p (n - l.length)) (fun r => retP (l ++ r)) zs k'
section
variable {α : Type} {p : Pr α} {n : Nat} {zs : List Int} {k k' k'' : Nat} {l : List α} {a : α} {e : Int}
theorem ListTo.start : ListTo p n zs k [] k := by
  unfold ListTo bindP retP
  simp only [List.length_nil, Nat.sub_zero, List.nil_append]
  cases listP p n zs k <;> rfl
theorem ListTo.more (h : ListTo p n zs k l k') (hl : l.length < n) (hp : p zs k' = .ok (a, k'')) : ListTo p n zs k (l ++ [a]) k'' := by
  unfold ListTo at *
  rw [h]
  obtain ⟨m, hm⟩ : ∃ m, n - l.length = m + 1 := ⟨n - l.length - 1, by omega⟩
  have hm2 : n - (l ++ [a]).length = m := by simp; omega
  rw [hm, hm2]
  simp only [listP, bindP, retP, hp]
  cases listP p m zs k'' with
  | error e => rfl
  | ok x => simp
theorem ListTo.fail (h : ListTo p n zs k l k') (hl : l.length < n) (hp : p zs k' = .error e) : listP p n zs k = .error e := by
  unfold ListTo at h
  rw [h]
  obtain ⟨m, hm⟩ : ∃ m, n - l.length = m + 1 := ⟨n - l.length - 1, by omega⟩
  rw [hm]
  simp only [listP, bindP, retP, hp]
theorem ListTo.done (h : ListTo p n zs k l k') (hl : l.length = n) : listP p n zs k = .ok (l, k') := by
  unfold ListTo at h
  rw [h, hl, Nat.sub_self]
  simp only [listP, bindP, retP, List.append_nil]
end
abbrev StZ := Except Int Nat
def runP {α : Type} (p : Pr α) (zs : List Int) : StZ → Except Int (α × Nat)
  | .ok k => p zs k
  | .error e => .error e
def withZ {α : Type} (a : α) : StZ → Except Int (α × Nat)
  | .ok k => .ok (a, k)
  | .error e => .error e
def Nx {α : Type} (p : Pr α) (zs : List Int) (σ : StZ) (a : α) (σ' : StZ) : Prop := runP p zs σ = withZ a σ'
theorem Nx.ret {α : Type} (a : α) (zs : List Int) (σ : StZ) : Nx (retP a) zs σ a σ := by cases σ <;> rfl
theorem Nx.bad {α : Type} (p : Pr α) (a : α) (zs : List Int) (e : Int) : Nx p zs (.error e) a (.error e) := rfl
def failS (x : Int) : StZ → StZ
  | .ok k => if x = 0 then .ok k else .error x
  | .error e => .error e
theorem Nx.fail {α : Type} (a : α) {zs : List Int} {σ : StZ} {x : Int} (h : x ≠ 0) : Nx (failP x) zs σ a (failS x σ) := by
  unfold Nx
  cases σ with
  | ok k => simp only [failS, if_neg h]; rfl
  | error e => rfl
def StK (σ : StZ) (k : Nat) (e : Int) : Prop := match σ with
  | .ok k' => k' = k ∧ e = 0
  | .error x => e = x ∧ x ≠ 0
theorem Nx.at {σ : StZ} {k : Nat} {e : Int} (zs : List Int) (h : StK σ k e) : Nx atP zs σ k σ := by
  unfold Nx
  cases σ with
  | ok k' => obtain ⟨rfl, _⟩ := h; rfl
  | error e => rfl
def ListS {α : Type} (p : Pr α) (n : Nat) (zs : List Int) (σ0 : StZ) (l : List α) : StZ → Prop
  | .ok k => ∃ k0, σ0 = .ok k0 ∧ ListTo p n zs k0 l k
  | .error e => runP (listP p n) zs σ0 = .error e
section
variable {α : Type} {p : Pr α} {n : Nat} {zs : List Int} {σ0 σ σ' : StZ} {l : List α} {a : α}
theorem ListS.start : ListS p n zs σ0 [] σ0 := by
  cases σ0 with
  | ok k => exact ⟨k, rfl, ListTo.start⟩
  | error e => rfl
theorem ListS.more {k : Nat} (h : ListS p n zs σ0 l (.ok k)) (hl : l.length < n) (hp : Nx p zs (.ok k) a σ') : ListS p n zs σ0 (l ++ [a]) σ' := by
  obtain ⟨k0, rfl, h⟩ := h
  cases σ' with
  | ok k' => exact ⟨k0, rfl, h.more hl hp⟩
  | error e => exact h.fail hl hp
theorem ListS.done (h : ListS p n zs σ0 l σ) (hd : (∃ e, σ = .error e) ∨ l.length = n) : Nx (listP p n) zs σ0 l σ := by
  cases σ with
  | error e => exact h
  | ok k =>
    rcases hd with ⟨e, he⟩ | hd
    · cases he
    · obtain ⟨k0, rfl, h⟩ := h
      exact h.done hd
end
def DecP (zs : List Int) (cs : List ConstV) (n e : Int) : Prop :=
  (zs.length < 2 ∧ cs = [] ∧ n = 0 ∧ e = 3) ∨ (2 ≤ zs.length ∧ 1024 < uAt zs 0 2 ∧ cs = [] ∧ n = 0 ∧ e = 2) ∨ (2 ≤ zs.length ∧ uAt zs 0 2 = 0 ∧ cs = [] ∧ n = 0 ∧ e = 40) ∨
  (2 ≤ zs.length ∧ 1 ≤ uAt zs 0 2 ∧ uAt zs 0 2 ≤ 1024 ∧
    ((∃ e0, ReadsTo zs (uAt zs 0 2).toNat (.inr e0) ∧ cs = [] ∧ n = 0 ∧ e = e0) ∨
     (∃ ds k, ReadsTo zs (uAt zs 0 2).toNat (.inl (ds, k)) ∧ ((checkZ ds ≠ 0 ∧ cs = [] ∧ n = 0 ∧ e = checkZ ds) ∨ (checkZ ds = 0 ∧ cs = ds ∧ n = (k : Int) ∧ e = 0)))))
theorem DecP.unique {zs : List Int} {cs cs' : List ConstV} {n n' e e' : Int} (h : DecP zs cs n e) (h' : DecP zs cs' n' e') : cs = cs' ∧ n = n' ∧ e = e' := by
  rcases h with ⟨h1, rfl, rfl, rfl⟩ | ⟨h1, h2, rfl, rfl, rfl⟩ | ⟨h1, h2, rfl, rfl, rfl⟩ | ⟨h1, h2, h3, hr⟩ <;> rcases h' with ⟨h1', rfl, rfl, rfl⟩ | ⟨h1', h2', rfl, rfl, rfl⟩ | ⟨h1', h2', rfl, rfl, rfl⟩ | ⟨h1', h2', h3', hr'⟩
  all_goals first
    | exact ⟨rfl, rfl, rfl⟩
    | omega
    | skip
  rcases hr with ⟨e0, hr, rfl, rfl, rfl⟩ | ⟨ds, k, hr, hc⟩ <;> rcases hr' with ⟨e0', hr', rfl, rfl, rfl⟩ | ⟨ds', k', hr', hc'⟩
  · have := hr.unique hr'
    injection this with this
    exact ⟨rfl, rfl, this⟩
  · have := hr.unique hr'; cases this
  · have := hr.unique hr'; cases this
  · have := hr.unique hr'
    injection this with this
    injection this with h1 h2
    subst h1 h2
    rcases hc with ⟨h4, rfl, rfl, rfl⟩ | ⟨h4, rfl, rfl, rfl⟩ <;> rcases hc' with ⟨h4', rfl, rfl, rfl⟩ | ⟨h4', rfl, rfl, rfl⟩
    · exact ⟨rfl, rfl, rfl⟩
    · exact absurd h4' h4
    · exact absurd h4 h4'
    · exact ⟨rfl, rfl, rfl⟩
def Fits (c : ConstV) : Prop := ConstR c ∧ c.text.size ≤ 256
theorem sgn_fits {n : Nat} (h : n = 4 ∨ n = 8) {u : Int} (h0 : 0 ≤ u) (h1 : u < 256 ^ n) : I64 (sgn n u) := by
  rcases h with rfl | rfl
  all_goals
    unfold I64 sgn
    simp only [Int.reducePow, Nat.reduceMul, Nat.reduceSub] at h1 ⊢
    split <;> omega
theorem uAt_fits {zs : List Int} (hz : Bytish zs) (k n : Nat) (h : k + n ≤ zs.length) : 0 ≤ uAt zs k n ∧ uAt zs k n < 256 ^ n := valB_lt n _ (by simp; omega) ((hz.drop k).take n)
theorem dec_small {zs ys : List Int} {e : Int} (h : Dec zs ys e) (hl : zs.length ≤ 256) : (strOfNums ys).size ≤ 256 := by
  rw [strOfNums_size]
  rcases h with ⟨cs, hm, rfl, _⟩ | ⟨_, rfl, _⟩
  · have := (M8s_len hm.1).1
    rw [hm.2] at hl
    omega
  · simp
theorem I64.small {z : Int} (h0 : -65536 ≤ z) (h1 : z ≤ 65536) : I64 z := ⟨by omega, by omega⟩
theorem fits_of {t n a b : Int} {x : ByteArray} (ht : I64 t) (hn : I64 n) (ha : I64 a) (hb : I64 b) (hx : x.size ≤ 256) : Fits ⟨t, x, n, a, b⟩ := ⟨⟨ht, hn, ha, hb, Nat.le_trans hx (by decide)⟩, hx⟩
theorem zeroK_fits : Fits zeroK := fits_of (I64.small (by decide) (by decide)) (I64.small (by decide) (by decide)) (I64.small (by decide) (by decide)) (I64.small (by decide) (by decide)) (by decide)
theorem RdC.fits {zs : List Int} (hz : Bytish zs) {k k' : Nat} {tag : Int} {c : ConstV} (h : RdC zs k tag c k' 0) : Fits c ∧ k' ≤ zs.length := by
  unfold RdC at h
  by_cases h1 : tag = 1
  · rw [if_pos h1] at h
    rcases h with ⟨_, h⟩ | ⟨_, _, h⟩ | ⟨_, _, _, h⟩ | ⟨ha, hb, hc, ys, hd, rfl, rfl⟩
    · cases h
    · cases h
    · cases h
    · have := dec_small hd (by simp; omega)
      exact ⟨fits_of (I64.small (by decide) (by decide)) (I64.small (by decide) (by decide)) (I64.small (by decide) (by decide)) (I64.small (by decide) (by decide)) this, hc⟩
  rw [if_neg h1] at h
  by_cases h3 : tag = 3
  · rw [if_pos h3] at h
    rcases h with ⟨_, h⟩ | ⟨ha, _, rfl, rfl⟩
    · cases h
    · have := uAt_fits hz k 4 ha
      exact ⟨fits_of (I64.small (by decide) (by decide)) (sgn_fits (.inl rfl) this.1 this.2) (I64.small (by decide) (by decide)) (I64.small (by decide) (by decide)) (by decide), ha⟩
  rw [if_neg h3] at h
  by_cases h5 : tag = 5
  · rw [if_pos h5] at h
    rcases h with ⟨_, h⟩ | ⟨ha, _, rfl, rfl⟩
    · cases h
    · have := uAt_fits hz k 8 ha
      exact ⟨fits_of (I64.small (by decide) (by decide)) (sgn_fits (.inr rfl) this.1 this.2) (I64.small (by decide) (by decide)) (I64.small (by decide) (by decide)) (by decide), ha⟩
  rw [if_neg h5] at h
  by_cases h7 : tag = 7
  · rw [if_pos h7] at h
    rcases h with ⟨_, h⟩ | ⟨ha, _, rfl, rfl⟩
    · cases h
    · have := uAt_fits hz k 2 ha
      simp only [Int.reducePow] at this
      exact ⟨fits_of (I64.small (by decide) (by decide)) (I64.small (by decide) (by decide)) (I64.small (by omega) (by omega)) (I64.small (by decide) (by decide)) (by decide), ha⟩
  rw [if_neg h7] at h
  by_cases h9 : tag = 9 ∨ tag = 10 ∨ tag = 12
  · rw [if_pos h9] at h
    rcases h with ⟨_, h⟩ | ⟨ha, _, rfl, rfl⟩
    · cases h
    · have h1 := uAt_fits hz k 2 (by omega)
      have h2 := uAt_fits hz (k + 2) 2 (by omega)
      simp only [Int.reducePow] at h1 h2
      exact ⟨fits_of (I64.small (by omega) (by omega)) (I64.small (by decide) (by decide)) (I64.small (by omega) (by omega)) (I64.small (by omega) (by omega)) (by decide), ha⟩
  rw [if_neg h9] at h
  cases h
theorem Reads.fits {zs : List Int} (hz : Bytish zs) (h2 : 2 ≤ zs.length) {cs : List ConstV} {k : Nat} (h : Reads zs cs k) : (∀ c ∈ cs, Fits c) ∧ k ≤ zs.length := by
  induction h with
  | start => exact ⟨fun c hc => by simp at hc; subst hc; exact zeroK_fits, h2⟩
  | more _ r ih =>
    rcases r with ⟨_, h⟩ | ⟨_, hr⟩
    · cases h
    · have := hr.fits hz
      refine ⟨fun c hc => ?_, this.2⟩
      rcases List.mem_append.1 hc with hc | hc
      · exact ih.1 c hc
      · simp at hc; subst hc; exact this.1
def cellsC (c : ConstV) : List Value := [.int .i64 c.tag, .string c.text, .int .i64 c.n, .int .i64 c.a, .int .i64 c.b]
def RowC (w : World) (B : Nat) (v : Value) (cs : List ConstV) : Prop := w.ownsRow B 145 5 v cs.length (cs.flatMap cellsC)
theorem cellsC_at : ∀ {cs : List ConstV} {i d : Nat}, i < cs.length → d < 5 → (cs.flatMap cellsC)[i * 5 + d]? = (cellsC (cs.getD i default))[d]?
  | c :: r, 0, d, _, hd => by
    rw [List.flatMap_cons, List.getElem?_append_left (by simp [cellsC]; omega)]
    simp
  | c :: r, i + 1, d, hi, hd => by
    rw [List.flatMap_cons, List.getElem?_append_right (by simp [cellsC]; omega)]
    have : (i + 1) * 5 + d - (cellsC c).length = i * 5 + d := by simp [cellsC]; omega
    rw [this, cellsC_at (by simpa using hi) hd]
    simp
theorem RowC.pool {w : World} {B : Nat} {v : Value} {cs : List ConstV} (h : RowC w B v cs) (hr : ∀ c ∈ cs, ConstR c) : Pool w v cs := by
  rcases h.2 with ⟨rfl, hn⟩ | ⟨g, cap, cur, rfl, hb, hg, hnc, hcm, hcs, htake⟩
  · have : cs = [] := List.eq_nil_of_length_eq_zero hn
    subst this
    exact ⟨none, 0, rfl, Nat.le_refl _, by omega, fun _ => rfl, hr, fun x hx _ => by cases hx⟩
  · refine ⟨_, cap, rfl, hnc, by unfold maxLen at hcm; omega, (fun e => by cases e), hr, fun x hx _ => ?_⟩
    cases hx
    refine ⟨g, 0, rfl, fun i hi => ?_⟩
    have hc : ∀ d, d < 5 → w.cell? ⟨g, 0 + i * 5 + d, none⟩ = (cellsC (cs.getD i default))[d]? := fun d hd => by
      rw [Nat.zero_add, ← cellsC_at hi hd]
      exact (show w.ownsRow B _ 5 _ _ _ from h).cellAt (g := g) (cap := cap) (i * 5 + d) (by omega)
    exact ⟨hc 0 (by decide), hc 1 (by decide), hc 2 (by decide), hc 3 (by decide), hc 4 (by decide)⟩
theorem RowC.only {S : Nat → Prop} {w w' : World} {B : Nat} {v : Value} {cs : List ConstV} (h : RowC w B v cs) (ho : Only S w w') (hs : ∀ k, v.ownBlock = some k → ¬ S k) : RowC w' B v cs := ho.owns h hs
theorem RowC.ge {w : World} {B : Nat} {v : Value} {cs : List ConstV} (h : RowC w B v cs) : ∀ k, v.ownBlock = some k → B ≤ k ∧ k < w.heap.size := fun k hk => World.ownsRow.lt h k hk
theorem uAt_mid (pre mid post : List Int) (k n : Nat) (hk : k = pre.length) (hn : mid.length = n) : uAt (pre ++ (mid ++ post)) k n = valB mid := by
  subst hk hn
  unfold uAt
  rw [List.drop_left, List.take_left]
theorem valB_be2 {n : Int} (h0 : 0 ≤ n) (h1 : n ≤ 65535) : valB (be2 n) = n := by
  simp [valB, be2]
  omega
theorem sgn_back {n : Nat} (h : n = 4 ∨ n = 8) {v z : Int} (h0 : -(2 ^ (8 * n - 1)) ≤ z) (h1 : z < 2 ^ (8 * n - 1)) (hv : v = z % 2 ^ (8 * n)) : sgn n v = z := by
  unfold sgn
  subst hv
  rcases h with rfl | rfl
  all_goals
    simp only [Nat.reduceMul, Nat.reduceSub, Int.reducePow] at h0 h1 ⊢
    by_cases hz : 0 ≤ z
    · rw [if_neg (by omega)]; omega
    · rw [if_pos (by omega)]; omega
theorem valB_four {n : Int} (h0 : -2147483648 ≤ n) (h1 : n ≤ 2147483647) : sgn 4 (valB [n / 16777216 % 256, n / 65536 % 256, n / 256 % 256, n % 256]) = n := by
  apply sgn_back (.inl rfl) (by simp only [Nat.reduceMul, Nat.reduceSub, Int.reducePow]; omega) (by simp only [Nat.reduceMul, Nat.reduceSub, Int.reducePow]; omega)
  simp only [valB, List.foldl, Nat.reduceMul, Int.reducePow]
  omega
theorem valB_eight {n : Int} (h : I64 n) : sgn 8 (valB [n / 72057594037927936 % 256, n / 281474976710656 % 256, n / 1099511627776 % 256, n / 4294967296 % 256, n / 16777216 % 256, n / 65536 % 256, n / 256 % 256, n % 256]) = n := by
  unfold I64 at h
  apply sgn_back (.inr rfl) (by simp only [Nat.reduceMul, Nat.reduceSub, Int.reducePow]; omega) (by simp only [Nat.reduceMul, Nat.reduceSub, Int.reducePow]; omega)
  simp only [valB, List.foldl, Nat.reduceMul, Int.reducePow]
  omega
theorem enc_dec {x : ByteArray} {ys : List Int} (h : Enc (nums x) ys 0) : Dec ys (nums x) 0 := by
  rcases h with ⟨cs, ht, rfl, _⟩ | ⟨_, _, h⟩
  · exact .inl ⟨cs, ⟨ht.1, rfl⟩, ht.2, rfl⟩
  · cases h
theorem strOf_nums (x : ByteArray) : strOfNums (nums x) = x := by
  rcases x with ⟨⟨l⟩⟩
  have : strOfNums (nums ⟨⟨l⟩⟩) = ⟨(((numsL l).map fun n => UInt8.ofNat n.toNat)).toArray⟩ := rfl
  rw [this]
  congr 2
  unfold numsL
  rw [List.map_map]
  conv => rhs; rw [← List.map_id l]
  apply List.map_congr_left
  intro u _
  simp
theorem ConstB.read {pre post b : List Int} {c : ConstV} (h : ConstB c b) (hbare : bareZ c = true) (hn : I64 c.n)
    (hr : (c.tag = 3 → -2147483648 ≤ c.n ∧ c.n ≤ 2147483647) ∧ (c.tag = 7 ∨ c.tag = 9 ∨ c.tag = 10 ∨ c.tag = 12 → 0 ≤ c.a ∧ c.a ≤ 1023) ∧ (c.tag = 9 ∨ c.tag = 10 ∨ c.tag = 12 → 0 ≤ c.b ∧ c.b ≤ 1023)) :
    RdOne (pre ++ (b ++ post)) pre.length c (pre ++ b).length 0 := by
  obtain ⟨t, x, n, a, bb⟩ := c
  obtain ⟨hr3, hra, hrb⟩ := hr
  simp only at hr3 hra hrb hn hbare
  rcases h with ⟨ht, ys, he, hl, rfl⟩ | ⟨ht, rfl⟩ | ⟨ht, rfl⟩ | ⟨ht, rfl⟩ | ⟨ht, rfl⟩
  · simp only at ht he
    subst ht
    simp [bareZ] at hbare
    obtain ⟨rfl, rfl, rfl⟩ := hbare
    have e0 : pre ++ ((1 :: be2 (ys.length : Int) ++ ys) ++ post) = pre ++ ([1] ++ (be2 ys.length ++ ys ++ post)) := by simp
    have e1 : pre ++ ((1 :: be2 (ys.length : Int) ++ ys) ++ post) = (pre ++ [1]) ++ (be2 ys.length ++ (ys ++ post)) := by simp
    have e2 : pre ++ ((1 :: be2 (ys.length : Int) ++ ys) ++ post) = (pre ++ [1] ++ be2 ys.length) ++ (ys ++ post) := by simp
    have u0 : uAt (pre ++ ((1 :: be2 (ys.length : Int) ++ ys) ++ post)) pre.length 1 = 1 := by rw [e0, uAt_mid pre [1] _ _ 1 rfl rfl]; rfl
    have u1 : uAt (pre ++ ((1 :: be2 (ys.length : Int) ++ ys) ++ post)) (pre.length + 1) 2 = (ys.length : Int) := by
      rw [e1, uAt_mid (pre ++ [1]) (be2 ys.length) _ _ 2 (by simp) rfl, valB_be2 (by omega) (by omega)]
    refine .inr ⟨by simp, ?_⟩
    rw [u0]
    unfold RdC
    rw [if_pos rfl]
    refine .inr (.inr (.inr ⟨by simp [be2]; omega, by rw [u1]; omega, by rw [u1]; simp [be2]; omega, nums x, ?_, by rw [strOf_nums], by rw [u1]; simp [be2]; omega⟩))
    rw [u1, Int.toNat_natCast]
    have : ((pre ++ ((1 :: be2 (ys.length : Int) ++ ys) ++ post)).drop (pre.length + 1 + 2)).take ys.length = ys := by
      rw [e2, show pre.length + 1 + 2 = (pre ++ [1] ++ be2 (ys.length : Int)).length by simp [be2], List.drop_left, List.take_left]
    rw [this]
    exact enc_dec he
  · simp only at ht
    subst ht
    simp [bareZ] at hbare
    obtain ⟨rfl, rfl, rfl⟩ := hbare
    have e0 : pre ++ ((3 :: [n / 16777216 % 256, n / 65536 % 256, n / 256 % 256, n % 256]) ++ post) = pre ++ ([3] ++ ([n / 16777216 % 256, n / 65536 % 256, n / 256 % 256, n % 256] ++ post)) := by simp
    have e1 : pre ++ ((3 :: [n / 16777216 % 256, n / 65536 % 256, n / 256 % 256, n % 256]) ++ post) = (pre ++ [3]) ++ ([n / 16777216 % 256, n / 65536 % 256, n / 256 % 256, n % 256] ++ post) := by simp
    have u0 : uAt (pre ++ ((3 :: [n / 16777216 % 256, n / 65536 % 256, n / 256 % 256, n % 256]) ++ post)) pre.length 1 = 3 := by rw [e0, uAt_mid pre [3] _ _ 1 rfl rfl]; rfl
    have u1 : uAt (pre ++ ((3 :: [n / 16777216 % 256, n / 65536 % 256, n / 256 % 256, n % 256]) ++ post)) (pre.length + 1) 4 = valB ([n / 16777216 % 256, n / 65536 % 256, n / 256 % 256, n % 256]) := by rw [e1, uAt_mid (pre ++ [3]) ([n / 16777216 % 256, n / 65536 % 256, n / 256 % 256, n % 256]) _ _ 4 (by simp) rfl]
    refine .inr ⟨by simp, ?_⟩
    rw [u0]
    unfold RdC
    rw [if_neg (by decide), if_pos rfl]
    refine .inr ⟨by simp [be2]; omega, rfl, ?_, by simp⟩
    rw [u1]
    show _ = (⟨3, noText, sgn 4 (valB _), 0, 0⟩ : ConstV)
    rw [valB_four (hr3 rfl).1 (hr3 rfl).2]
    rfl
  · simp only at ht
    subst ht
    simp [bareZ] at hbare
    obtain ⟨rfl, rfl, rfl⟩ := hbare
    have e0 : pre ++ ((5 :: [n / 72057594037927936 % 256, n / 281474976710656 % 256, n / 1099511627776 % 256, n / 4294967296 % 256, n / 16777216 % 256, n / 65536 % 256, n / 256 % 256, n % 256]) ++ post) = pre ++ ([5] ++ ([n / 72057594037927936 % 256, n / 281474976710656 % 256, n / 1099511627776 % 256, n / 4294967296 % 256, n / 16777216 % 256, n / 65536 % 256, n / 256 % 256, n % 256] ++ post)) := by simp
    have e1 : pre ++ ((5 :: [n / 72057594037927936 % 256, n / 281474976710656 % 256, n / 1099511627776 % 256, n / 4294967296 % 256, n / 16777216 % 256, n / 65536 % 256, n / 256 % 256, n % 256]) ++ post) = (pre ++ [5]) ++ ([n / 72057594037927936 % 256, n / 281474976710656 % 256, n / 1099511627776 % 256, n / 4294967296 % 256, n / 16777216 % 256, n / 65536 % 256, n / 256 % 256, n % 256] ++ post) := by simp
    have u0 : uAt (pre ++ ((5 :: [n / 72057594037927936 % 256, n / 281474976710656 % 256, n / 1099511627776 % 256, n / 4294967296 % 256, n / 16777216 % 256, n / 65536 % 256, n / 256 % 256, n % 256]) ++ post)) pre.length 1 = 5 := by rw [e0, uAt_mid pre [5] _ _ 1 rfl rfl]; rfl
    have u1 : uAt (pre ++ ((5 :: [n / 72057594037927936 % 256, n / 281474976710656 % 256, n / 1099511627776 % 256, n / 4294967296 % 256, n / 16777216 % 256, n / 65536 % 256, n / 256 % 256, n % 256]) ++ post)) (pre.length + 1) 8 = valB ([n / 72057594037927936 % 256, n / 281474976710656 % 256, n / 1099511627776 % 256, n / 4294967296 % 256, n / 16777216 % 256, n / 65536 % 256, n / 256 % 256, n % 256]) := by rw [e1, uAt_mid (pre ++ [5]) ([n / 72057594037927936 % 256, n / 281474976710656 % 256, n / 1099511627776 % 256, n / 4294967296 % 256, n / 16777216 % 256, n / 65536 % 256, n / 256 % 256, n % 256]) _ _ 8 (by simp) rfl]
    refine .inr ⟨by simp, ?_⟩
    rw [u0]
    unfold RdC
    rw [if_neg (by decide), if_neg (by decide), if_pos rfl]
    refine .inr ⟨by simp [be2]; omega, rfl, ?_, by simp⟩
    rw [u1]
    show _ = (⟨5, noText, sgn 8 (valB _), 0, 0⟩ : ConstV)
    rw [valB_eight hn]
    rfl
  · simp only at ht
    subst ht
    simp [bareZ] at hbare
    obtain ⟨rfl, rfl, rfl⟩ := hbare
    have e0 : pre ++ ((7 :: be2 a) ++ post) = pre ++ ([7] ++ (be2 a ++ post)) := by simp
    have e1 : pre ++ ((7 :: be2 a) ++ post) = (pre ++ [7]) ++ (be2 a ++ post) := by simp
    have u0 : uAt (pre ++ ((7 :: be2 a) ++ post)) pre.length 1 = 7 := by rw [e0, uAt_mid pre [7] _ _ 1 rfl rfl]; rfl
    have u1 : uAt (pre ++ ((7 :: be2 a) ++ post)) (pre.length + 1) 2 = valB (be2 a) := by rw [e1, uAt_mid (pre ++ [7]) (be2 a) _ _ 2 (by simp) rfl]
    refine .inr ⟨by simp, ?_⟩
    rw [u0]
    unfold RdC
    rw [if_neg (by decide), if_neg (by decide), if_neg (by decide), if_pos rfl]
    refine .inr ⟨by simp [be2]; omega, rfl, ?_, by simp [be2]⟩
    rw [u1, valB_be2 (by have := hra (.inl rfl); omega) (by have := hra (.inl rfl); omega)]
    rfl
  · simp only at ht
    have hb : x = ⟨#[]⟩ ∧ n = 0 := by
      unfold bareZ at hbare
      simp only at hbare
      rw [if_neg (by omega), if_neg (by omega), if_neg (by omega)] at hbare
      simpa using hbare
    obtain ⟨rfl, rfl⟩ := hb
    have ha := hra (by rcases ht with h | h | h <;> simp [h])
    have hb := hrb ht
    have e0 : pre ++ ((t :: be2 a ++ be2 bb) ++ post) = pre ++ ([t] ++ (be2 a ++ be2 bb ++ post)) := by simp
    have e1 : pre ++ ((t :: be2 a ++ be2 bb) ++ post) = (pre ++ [t]) ++ (be2 a ++ (be2 bb ++ post)) := by simp
    have e2 : pre ++ ((t :: be2 a ++ be2 bb) ++ post) = (pre ++ [t] ++ be2 a) ++ (be2 bb ++ post) := by simp
    have u0 : uAt (pre ++ ((t :: be2 a ++ be2 bb) ++ post)) pre.length 1 = t := by rw [e0, uAt_mid pre [t] _ _ 1 rfl rfl]; simp [valB]
    have u1 : uAt (pre ++ ((t :: be2 a ++ be2 bb) ++ post)) (pre.length + 1) 2 = a := by rw [e1, uAt_mid (pre ++ [t]) (be2 a) _ _ 2 (by simp) rfl, valB_be2 (by omega) (by omega)]
    have u2 : uAt (pre ++ ((t :: be2 a ++ be2 bb) ++ post)) (pre.length + 1 + 2) 2 = bb := by rw [e2, uAt_mid (pre ++ [t] ++ be2 a) (be2 bb) _ _ 2 (by simp [be2]) rfl, valB_be2 (by omega) (by omega)]
    refine .inr ⟨by simp, ?_⟩
    rw [u0]
    unfold RdC
    rw [if_neg (by omega), if_neg (by omega), if_neg (by omega), if_neg (by omega), if_pos ht]
    refine .inr ⟨by simp [be2]; omega, rfl, ?_, by simp [be2]⟩
    rw [u1, u2]
    rfl
theorem bare_of_one {cs : List ConstV} {c : ConstV} (h : oneZ cs c = 0) : bareZ c = true := by
  unfold oneZ at h
  by_cases hb : bareZ c = false
  · rw [if_pos hb] at h; simp at h
  · simpa using hb
theorem ConstsB.reads {all : List ConstV} (hl : all.length ≤ 1024) {cs : List ConstV} {bs : List Int} (h : ConstsB cs bs) : (∀ c ∈ cs, oneZ all c = 0 ∧ I64 c.n) → ∀ {pre post : List Int}, pre.length = 2 →
    Reads (pre ++ (bs ++ post)) (zeroK :: cs) (pre ++ bs).length := by
  induction h with
  | nil => intro _ pre post hp; simp only [List.nil_append, List.append_nil]; rw [hp]; exact .start
  | @snoc cs bs c b h1 h2 ih =>
    intro hall pre post hp
    have hc := hall c (by simp)
    have hi := ih (fun d hd => hall d (by simp [hd])) (pre := pre) (post := b ++ post) hp
    have hz := oneZ_zero hl hc.1
    have hr := ConstB.read (pre := pre ++ bs) (post := post) h2 (bare_of_one hc.1) hc.2 (by
      rcases hz with ⟨h, _⟩ | ⟨h, h0, h1⟩ | h | ⟨h, h0, h1⟩ | ⟨h, ⟨h0, h1⟩, h2, h3⟩
      · exact ⟨fun e => by omega, fun e => by omega, fun e => by omega⟩
      · exact ⟨fun e => ⟨h0, h1⟩, fun e => by omega, fun e => by omega⟩
      · exact ⟨fun e => by omega, fun e => by omega, fun e => by omega⟩
      · exact ⟨fun e => by omega, fun e => ⟨h0, h1⟩, fun e => by omega⟩
      · exact ⟨fun e => by omega, fun e => ⟨h0, h1⟩, fun e => ⟨h2, h3⟩⟩)
    have hm := Reads.more (c := c) (k' := (pre ++ bs ++ b).length) (by simpa [List.append_assoc] using hi) (by simpa [List.append_assoc] using hr)
    simpa [List.append_assoc] using hm
def GoIf (Q : Prop) (z : Int) (w : World) (e : Ending) (w' : World) : Prop := ((Q ∧ e = .returned (.tuple #[])) ∨ (¬ Q ∧ e = pan z)) ∧ Only (fun _ => False) w w'
theorem GoIf.yes {Q : Prop} {z : Int} {w w' : World} (h : Q) (ho : Only (fun _ => False) w w') : GoIf Q z w (.returned (.tuple #[])) w' := ⟨.inl ⟨h, rfl⟩, ho⟩
theorem GoIf.no {Q : Prop} {z : Int} {w w' : World} (h : ¬ Q) (ho : Only (fun _ => False) w w') : GoIf Q z w (pan z) w' := ⟨.inr ⟨h, rfl⟩, ho⟩
theorem refuse0 (w : World) : Calls Tryz.prog 67 #[.int .i64 0] w fun e w' => e = .returned (.tuple #[]) ∧ w = w' := by
  go_enter Tryz.func67, Tryz.ntmps67
  go_wp2
  go_end0
  exact ⟨rfl, rfl⟩
theorem refuseN (z : Int) (hz : z ≠ 0) (w : World) : Calls Tryz.prog 67 #[.int .i64 z] w fun e w' => e = pan z ∧ w = w' := by
  have hb : (z != 0) = true := by simpa using hz
  go_enter Tryz.func67, Tryz.ntmps67
  go_wp2
  exact ⟨rfl, rfl, rfl⟩
theorem mustT (w : World) : Calls Tryz.prog 70 #[.bool true] w fun e w' => e = .returned (.tuple #[]) ∧ w = w' := by
  go_enter Tryz.func70, Tryz.ntmps70
  go_wp2
  go_end0
  exact ⟨rfl, rfl⟩
theorem mustF (w : World) : Calls Tryz.prog 70 #[.bool false] w fun e w' => e = pan 50 ∧ w = w' := by
  have c := refuseN 50 (by decide) w
  go_enter Tryz.func70, Tryz.ntmps70
  go_wp2_with (go_at_call 67; refine c.mono ?_; rintro e w' ⟨rfl, rfl⟩)
  exact ⟨rfl, rfl, rfl⟩
theorem mustB (b : Bool) (w : World) : Calls Tryz.prog 70 #[.bool b] w fun e w' => ((b = true ∧ e = .returned (.tuple #[])) ∨ (b = false ∧ e = pan 50)) ∧ w = w' := by
  cases b
  · exact (mustF w).mono fun e w' h => ⟨.inr ⟨rfl, h.1⟩, h.2⟩
  · exact (mustT w).mono fun e w' h => ⟨.inl ⟨rfl, h.1⟩, h.2⟩
theorem isText (v : Value) (cs : List ConstV) (i : Int) (w : World) (hp : Pool w v cs) :
    Calls Tryz.prog 101 #[v, .int .i64 i] w fun e w' => e = .returned (.bool (textZ cs i).2) ∧ Only (fun _ => False) w w' := by
  have c := progText v cs i w hp
  go_enter Tryz.func101, Tryz.ntmps101
  go_wp2_with (go_at_call 97; refine c.mono ?_; rintro e w' ⟨rfl, ho⟩)
  go_ret
  exact ⟨rfl, ho⟩
theorem isClass (v : Value) (cs : List ConstV) (i : Int) (w : World) (hp : Pool w v cs) :
    Calls Tryz.prog 71 #[v, .int .i64 i] w fun e w' => e = .returned (.bool (classZ cs i).2) ∧ Only (fun _ => False) w w' := by
  have c := progClass v cs i w hp
  go_enter Tryz.func71, Tryz.ntmps71
  go_wp2_with (go_at_call 65; refine c.mono ?_; rintro e w' ⟨rfl, ho⟩)
  go_ret
  exact ⟨rfl, ho⟩
theorem clsName (vp vf vm : Value) (cs : List ConstV) (this super : Int) (w : World) (hp : Pool w vp cs) :
    Calls Tryz.prog 34 #[.agg #[vp, .int .i64 this, .int .i64 super, vf, vm]] w fun e w' => e = .returned (.string (classZ cs this).1) ∧ Only (fun _ => False) w w' := by
  obtain ⟨ao, cap, rfl, _⟩ := id hp
  have ho0 : ∀ o, Only (fun _ => False) w (w.alloc o) := fun o => (Only.refl _ _).alloc o
  have c := fun o => progClass _ cs this _ (hp.only (ho0 o) (fun _ _ h => h))
  go_enter Tryz.func34, Tryz.ntmps34
  go_wp2_with (go_at_call 65; refine (c _).mono ?_; rintro e w' ⟨rfl, ho⟩)
  go_ret
  exact ⟨rfl, (ho0 _).trans ho (fun _ h => h.elim)⟩
set_option maxRecDepth 100000 in
theorem checkTrapP (v : Value) (cs : List ConstV) (t : TrapV) (n : Nat) (hn : n ≤ 9223372036854775807) (w : World) (hp : Pool w v cs) :
    Calls Tryz.prog 103 #[v, .agg #[.int .i64 t.from_, .int .i64 t.to_, .int .i64 t.hand, .int .i64 t.type], .int .i64 n] w (GoIf (TrapP cs n t) 50 w) := by
  obtain ⟨ao, cap, rfl, _⟩ := id hp
  have ho0 : ∀ o, Only (fun _ => False) w (w.alloc o) := fun o => (Only.refl _ _).alloc o
  have cC := fun i w' (ho : Only (fun _ => False) w w') => isClass _ cs i w' (hp.only ho (fun _ _ h => h))
  have CC := hid cC
  have HO := hid ho0
  clear cC ho0 hp
  obtain ⟨a, b, c, d⟩ := t
  simp only
  go_enter Tryz.func103, Tryz.ntmps103
  go_wp2_with (first | (go_at_call 70; refine (mustB _ _).mono ?_; rintro e w' ⟨⟨h, rfl⟩ | ⟨h, rfl⟩, rfl⟩) | (go_at_call 71; refine (CC.out _ _ (HO.out _)).mono ?_; rintro e w' ⟨rfl, ho⟩; have HOC := hid ho))
  all_goals try (exfalso; (first | exact absurd (by assumption : true = false) (by decide) | exact absurd (by assumption : false = true) (by decide)); done)
  all_goals first
    | (go_end0
       refine GoIf.yes (Q := TrapP cs n ⟨a, b, c, _⟩) ⟨?_, ?_, ?_, ?_, ?_, ?_⟩ (by first | exact HO.out _ | exact (HO.out _).trans HOC.out (fun _ h => h.elim))
       all_goals
         clear CC HO
         simp only [decide_eq_true_eq, Bool.or_eq_true, beq_iff_eq] at *
         first
           | omega
           | assumption
           | (left; omega))
    | (refine ⟨rfl, GoIf.no (fun hq => ?_) (by first | exact HO.out _ | exact (HO.out _).trans HOC.out (fun _ h => h.elim))⟩
       obtain ⟨q1, q2, q3, q4, q5, q6⟩ := hq
       clear CC HO
       try simp only at q1 q2 q3 q4 q5 q6
       try simp only [decide_eq_true_eq, decide_eq_false_iff_not, Bool.or_eq_false_iff, beq_eq_false_iff_ne, ne_eq] at *
       first
         | omega
         | (rcases q6 with q6 | q6
            · omega
            · simp_all; done))
theorem isSlotsP (n : Int) (w : World) :
    Calls Tryz.prog 102 #[.int .i64 n] w fun e w' => e = .returned (.bool (decide (0 ≤ n) && decide (n ≤ 64))) ∧ w = w' := by
  by_cases h : 0 ≤ n
  · go_enter Tryz.func102, Tryz.ntmps102
    go_wp2
    go_ret
    exact ⟨by simp [h], rfl⟩
  · go_enter Tryz.func102, Tryz.ntmps102
    go_wp2
    go_ret
    exact ⟨by rw [decide_eq_false (Int.not_le.2 h)]; rfl, rfl⟩
theorem checkCountP (n : Int) (w : World) :
    Calls Tryz.prog 100 #[.int .i64 n] w (GoIf (n ≤ 64) 2 w) := by
  by_cases h : 64 < n
  · go_enter Tryz.func100, Tryz.ntmps100
    go_wp2_with (go_at_call 67; refine (refuseN 2 (by decide) _).mono ?_; rintro e w' ⟨rfl, rfl⟩)
    exact ⟨rfl, GoIf.no (Int.not_le.2 h) (Only.refl _ _)⟩
  · go_enter Tryz.func100, Tryz.ntmps100
    go_wp2
    go_end0
    exact GoIf.yes (by first | trivial | assumption) (Only.refl _ _)
set_option maxRecDepth 100000 in
theorem checkMemberP (v : Value) (cs : List ConstV) (fl nm ds : Int) (w : World) (hp : Pool w v cs) :
    Calls Tryz.prog 72 #[v, .int .i64 fl, .int .i64 nm, .int .i64 ds] w (GoIf (FlagsP fl ∧ (textZ cs nm).2 = true ∧ (textZ cs ds).2 = true) 50 w) := by
  obtain ⟨ao, cap, rfl, _⟩ := id hp
  have cT := fun i w' (ho : Only (fun _ => False) w w') => isText _ cs i w' (hp.only ho (fun _ _ h => h))
  have CT := hid cT
  have HON := hid (Only.refl (fun _ => False) w)
  clear cT hp
  go_enter Tryz.func72, Tryz.ntmps72
  go_wp2_with (first | (go_at_call 70; refine (mustB _ _).mono ?_; rintro e w' ⟨⟨h, rfl⟩ | ⟨h, rfl⟩, rfl⟩) | (go_at_call 101; refine (CT.out _ _ HON.out).mono ?_; rintro e w' ⟨rfl, ho⟩; have HON := hid (HON.out.trans ho (fun _ h => h.elim)); clear ho))
  all_goals try (exfalso; (first | exact absurd (by assumption : true = false) (by decide) | exact absurd (by assumption : false = true) (by decide)); done)
  all_goals first
    | (go_end0
       refine GoIf.yes ⟨?_, ?_, ?_⟩ HON.out
       · clear HON CT
         show _ ∨ _
         first
           | (left; assumption)
           | (left; rfl)
           | (simp_all; done)
           | omega
       · assumption
       · assumption)
    | (refine ⟨rfl, GoIf.no (fun hq => ?_) HON.out⟩
       obtain ⟨q1, q2, q3⟩ := hq
       all_goals
         clear HON CT
         unfold FlagsP at q1
         try simp only [decide_eq_true_eq, decide_eq_false_iff_not, Bool.or_eq_false_iff, beq_eq_false_iff_ne, ne_eq] at *
         all_goals first
           | omega
           | (simp_all; done)
           | (simp_all; omega))
def Bare (cs : List ConstV) : Prop := (∀ c ∈ cs, c.tag = 1 → c.n = 0 ∧ c.a = 0 ∧ c.b = 0) ∧ (cs.getD 0 default).tag ≠ 1
theorem bare_of_right {cs : List ConstV} (h : checkZ cs = 0) : Bare cs := by
  obtain ⟨h1, h2, h3, h4⟩ := checkZ_zero h
  refine ⟨fun c hc ht => ?_, by rw [h3]; decide⟩
  obtain ⟨i, hi, rfl⟩ := List.mem_iff_getElem.1 hc
  have e : cs.getD i default = cs[i] := by simp [List.getD, hi]
  by_cases h0 : i = 0
  · subst h0; rw [← e, h3] at ht; exact absurd ht (by decide)
  · have hb := bare_of_one (h4 i (by omega) hi)
    rw [e] at hb
    unfold bareZ at hb
    rw [if_pos ht] at hb
    simpa using hb
noncomputable def idxZ (cs : List ConstV) (s : ByteArray) : Int := if placeOf cs s = 0 then -1 else placeOf cs s
theorem findFrom_pos {s : ByteArray} : ∀ {l : List ConstV} {i : Nat}, 1 ≤ i → findFrom s i l = 0 ∨ (i : Int) ≤ findFrom s i l
  | [], i, _ => .inl rfl
  | c :: r, i, hi => by
    by_cases hc : c.tag = 1 ∧ c.text = s
    · rw [findFrom_here rfl hc]; exact .inr (Int.le_refl _)
    · rw [findFrom_skip rfl hc]
      rcases findFrom_pos (s := s) (l := r) (i := i + 1) (by omega) with h | h
      · exact .inl h
      · exact .inr (by omega)
theorem idxZ_pos (cs : List ConstV) (s : ByteArray) : 0 < idxZ cs s ↔ placeOf cs s ≠ 0 := by
  unfold idxZ
  rcases findFrom_pos (s := s) (l := cs.drop 1) (i := 1) (by decide) with h | h
  · rw [if_pos (show placeOf cs s = 0 from h)]; exact ⟨fun h => absurd h (by decide), fun h' => absurd h h'⟩
  · have hne : placeOf cs s ≠ 0 := by unfold placeOf; omega
    rw [if_neg hne]
    refine ⟨fun _ => hne, fun _ => ?_⟩
    unfold placeOf
    omega
theorem indexP (v : Value) (cs : List ConstV) (s : ByteArray) (w : World) (hp : Pool w v cs) (hb : Bare cs) :
    Calls Tryz.prog 123 #[v, .agg #[.int .i64 1, .string s, .int .i64 0, .int .i64 0, .int .i64 0]] w fun e w' => e = .returned (.int .i64 (idxZ cs s)) ∧ Only (fun _ => False) w w' := by
  obtain ⟨ao, cap, rfl, h1, h2, h3, h4, h5⟩ := id hp
  have ho0 : ∀ o, Only (fun _ => False) w (w.alloc o) := fun o => (Only.refl _ _).alloc o
  have Hp := hid (hp.only (ho0 (.cells #[.int .i64 1, .string s, .int .i64 0, .int .i64 0, .int .i64 0] 145)) (fun _ _ h => h))
  have HO := hid ho0
  have HB := hid hb
  have hbx := heap_alloc_new w (.cells #[.int .i64 1, .string s, .int .i64 0, .int .i64 0, .int .i64 0] 145)
  have HBX := hid hbx
  clear h3 h4 h5 hp hb ho0 hbx
  go_enter Tryz.func123, Tryz.ntmps123
  go_wp2
  go_loopw [8] (fun i wr => ∃ j : Nat, j ≤ cs.length ∧ i = .int .i64 j ∧ (j = 0 ∨ (1 ≤ j ∧ placeOf cs s = findFrom s j (cs.drop j))) ∧ Only (fun _ => False) (w.alloc (.cells #[.int .i64 1, .string s, .int .i64 0, .int .i64 0, .int .i64 0] 145)) wr) (fun i _ => cs.length - (intOf i).toNat)
  case atStart => exact ⟨0, Nat.zero_le _, rfl, .inl rfl, Only.refl _ _⟩
  case round =>
    obtain ⟨j, hj, rfl, hpl, hwr⟩ := hrel
    have hbr := hwr.heap HBX.out (fun h => h)
    have q0 := cell_blk hbr 0
    have q1 := cell_blk hbr 1
    have q2 := cell_blk hbr 2
    have q3 := cell_blk hbr 3
    have q4 := cell_blk hbr 4
    simp at q0 q1 q2 q3 q4
    have hpr := Hp.out.only hwr (fun _ _ h => h)
    have HWR := hid hwr
    clear hwr hbr
    by_cases hlt : j < cs.length
    · obtain ⟨b, o, rfl, hc⟩ := Pool.at hpr hlt
      obtain ⟨g0, g1, g2, g3, g4⟩ := hc
      have hjz : (j : Int) < (cs.length : Int) := by omega
      have hdr : cs.drop j = cs.getD j default :: cs.drop (j + 1) := by rw [List.drop_eq_getElem_cons hlt]; simp [List.getD, hlt]
      have hz1 : j = 0 → (cs.getD j default).tag ≠ 1 := fun e => by subst e; exact HB.out.2
      have hbare := HB.out.1 _ (show cs.getD j default ∈ cs by simp [List.getD, hlt])
      by_cases hh : (cs.getD j default).tag = 1 ∧ (cs.getD j default).text = s
      · have hv : placeOf cs s = (j : Int) := by
          rcases hpl with e | ⟨_, hpl⟩
          · exact absurd hh.1 (hz1 e)
          · exact hpl.trans (findFrom_here hdr hh)
        have hj1 : 1 ≤ j := by rcases hpl with e | ⟨h, _⟩; exact absurd hh.1 (hz1 e); exact h
        have Hv := hid (show idxZ cs s = (j : Int) by unfold idxZ; rw [if_neg (by omega), hv])
        obtain ⟨ht, hx⟩ := hh
        obtain ⟨b1, b2, b3⟩ := hbare ht
        rw [ht] at g0
        rw [hx] at g1
        rw [b1] at g2
        rw [b2] at g3
        rw [b3] at g4
        clear hpr hdr hpl hv ht hx hz1 hbare b1 b2 b3
        go_wp2
        go_region
        go_wp2
        go_ret
        exact ⟨by rw [Hv.out]; rfl, (HO.out _).trans ((HWR.out.drew)) (fun _ h => h.elim)⟩
      · have hv : placeOf cs s = findFrom s (j + 1) (cs.drop (j + 1)) := by
          rcases hpl with e | ⟨_, hpl⟩
          · subst e; rfl
          · exact hpl.trans (findFrom_skip hdr hh)
        have Hv := hid hv
        by_cases ht : (cs.getD j default).tag = 1
        · have hx : s ≠ (cs.getD j default).text := fun e => hh ⟨ht, e.symm⟩
          have hne := text_ne hx
          rw [ht] at g0
          generalize (cs.getD j default) = c at *
          obtain ⟨_, x, n, a, bb⟩ := c
          simp only at *
          clear hpr hdr hpl hv ht hx hh hz1 hbare
          go_wp2
          go_region
          go_wp2
          go_roundw
          case rel => exact ⟨j + 1, by omega, by go_num, .inr ⟨by omega, Hv.out⟩, HWR.out.drew⟩
          case measure => simp [intOf]; omega
        · have hne : ((1 : Int) == (cs.getD j default).tag) = false := by simpa using fun e => ht e.symm
          generalize (cs.getD j default) = c at *
          obtain ⟨t, x, n, a, bb⟩ := c
          simp only at *
          clear hpr hdr hpl hv ht hh hz1 hbare
          go_wp2
          go_region
          go_wp2
          go_roundw
          case rel => exact ⟨j + 1, by omega, by go_num, .inr ⟨by omega, Hv.out⟩, HWR.out.drew⟩
          case measure => simp [intOf]; omega
    · have hz : idxZ cs s = -1 := by
        have hp0 : placeOf cs s = 0 := by
          rcases hpl with e | ⟨_, hpl⟩
          · have : cs = [] := List.eq_nil_of_length_eq_zero (by omega)
            subst this
            rfl
          · rw [hpl, List.drop_eq_nil_of_le (by omega)]; rfl
        unfold idxZ
        rw [if_pos hp0]
      have Hz := hid hz
      have hjz : (cs.length : Int) ≤ (j : Int) := by omega
      clear hz hpl hpr
      go_wp2
      go_ret
      exact ⟨by rw [Hz.out]; rfl, (HO.out _).trans HWR.out (fun _ h => h.elim)⟩
theorem progPlace (v : Value) (cs : List ConstV) (s : ByteArray) (w : World) (hp : Pool w v cs) (hb : Bare cs) :
    Calls Tryz.prog 104 #[v, .string s] w fun e w' => e = .returned (.int .i64 (idxZ cs s)) ∧ Only (fun _ => False) w w' := by
  have c := indexP v cs s w hp hb
  obtain ⟨ao, cap, rfl, _⟩ := id hp
  go_enter Tryz.func104, Tryz.ntmps104
  go_wp2_with (go_at_call 123; refine c.mono ?_; rintro e w' ⟨rfl, ho⟩)
  go_ret
  exact ⟨rfl, ho⟩
end Go.Proofs.YtemplkpcckmcoaaGreatDoor
