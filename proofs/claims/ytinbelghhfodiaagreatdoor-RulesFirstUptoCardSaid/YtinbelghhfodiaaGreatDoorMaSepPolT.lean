import Derived.WalkKit
import Derived.WalkSpells
import Derived.WalkLawsBesides
import Derived.Lib.Hide
import Derived.OpenShut
import Derived.Lib.MapLaws
import Derived.Lib.ValidLaws
import Derived.Laws.BytesArg
import Derived.Test.YtinbelghhfodiaaGreatDoorRows
import Derived.Deep.QuietTactic
import Derived.BigQuiet
namespace Go.Proofs.YtinbelghhfodiaaGreatDoor
set_option maxHeartbeats 2000000
open Go.RowKit
structure Only (S : Nat → Prop) (w w' : World) : Prop where
 os : w'.os = w.os
 tape : w'.tape = w.tape
 output : w'.output = w.output
 size : w.heap.size ≤ w'.heap.size
 block : ∀ k, k < w.heap.size → ¬ S k → w'.heap[k]? = w.heap[k]?
theorem sIB {α : Type} {l : List α} {i : Nat} {a : α} : l.toArray.setIfInBounds i a = (l.set i a).toArray := by simp
theorem sC0 {α : Type} {a b : α} {l : List α} : (a :: l).set 0 b = b :: l := rfl
theorem sCS {α : Type} {a b : α} {l : List α} {n : Nat} : (a :: l).set (n + 1) b = a :: l.set n b := rfl
theorem Only.refl (S : Nat → Prop) (w : World) : Only S w w := ⟨rfl, rfl, rfl, Nat.le_refl _, fun _ _ _ => rfl⟩
theorem Only.trans {S T : Nat → Prop} {a b c : World} (h : Only S a b) (k : Only T b c) (hT : ∀ i, T i → i < a.heap.size → S i) : Only S a c :=
 ⟨k.os.trans h.os, k.tape.trans h.tape, k.output.trans h.output, Nat.le_trans h.size k.size,
  fun i hi hs => (k.block i (Nat.lt_of_lt_of_le hi h.size) (fun ht => hs (hT i ht hi))).trans (h.block i hi hs)⟩
theorem Only.mono {S T : Nat → Prop} {a b : World} (h : Only S a b) (hT : ∀ i, S i → i < a.heap.size → T i) : Only T a b :=
 ⟨h.os, h.tape, h.output, h.size, fun i hi hs => h.block i hi (fun ht => hs (hT i ht hi))⟩
theorem Only.of_below {w w' : World} (h : Below w.heap.size w w') (S : Nat → Prop) : Only S w w' := ⟨h.os, h.tape, h.output, h.size, fun i hi _ => h.block i hi⟩
theorem Only.below {S : Nat → Prop} {w w' : World} (h : Only S w w') {B : Nat} (hB : B ≤ w.heap.size) (hS : ∀ i, S i → B ≤ i) : Below B w w' :=
 ⟨h.os, h.tape, h.output, h.size, fun i hi => h.block i (by omega) (fun hs => by have := hS i hs; omega)⟩
theorem Only.none {w w' : World} (h : Only (fun _ => False) w w') : Below w.heap.size w w' := h.below (Nat.le_refl _) (fun _ h => h.elim)
theorem Only.drew {S : Nat → Prop} {a w : World} (h : Only S a w) : Only S a w.drew := ⟨h.os, h.tape, h.output, h.size, h.block⟩
theorem Only.drewN {S : Nat → Prop} {a w : World} (h : Only S a w) (n : Nat) : Only S a (w.drewN n) := ⟨h.os, h.tape, h.output, h.size, h.block⟩
theorem Only.alloc {S : Nat → Prop} {a w : World} (h : Only S a w) (o : Obj) : Only S a (w.alloc o) :=
 h.trans (T := fun _ => False) ⟨rfl, rfl, rfl, by simp, fun k hk _ => Below.heap_alloc _ _ _ (by omega)⟩ (fun _ h => h.elim)
theorem Only.setCell {S : Nat → Prop} {a w : World} (h : Only S a w) {p : Addr} (hp : p.block < a.heap.size → S p.block) (u : Value) : Only S a (w.setCell p u) :=
 h.trans (T := fun k => k = p.block) ⟨rfl, rfl, rfl, by simp [World.setCell], fun k _ hk => Below.heap_setCell _ _ _ _ hk⟩ (fun i hi hl => by subst hi; exact hp hl)
theorem Only.grown {S : Nat → Prop} {a w w' : World} {row : Option Nat} (h : Only S a w) (hg : w.grownBy w' row) (hr : ∀ k, row = some k → k < a.heap.size → S k) : Only S a w' :=
 h.trans (T := fun k => row = some k) ⟨hg.os, hg.tape, hg.output, hg.size, fun k hk hne => hg.block k hk (fun e => hne e.symm)⟩ hr
theorem Only.heap {S : Nat → Prop} {w w' : World} (h : Only S w w') {k : Nat} {o : Obj} (hk : w.heap[k]? = some o) (hs : ¬ S k) : w'.heap[k]? = some o :=
 (h.block k (Array.getElem?_eq_some_iff.1 hk).1 hs).trans hk
theorem heap_lt {w : World} {k : Nat} {o : Obj} (hk : w.heap[k]? = some o) : k < w.heap.size := (Array.getElem?_eq_some_iff.1 hk).1
theorem Only.cell {S : Nat → Prop} {w w' : World} (h : Only S w w') {a : Addr} {v : Value} (hc : w.cell? a = some v) (hs : ¬ S a.block) : w'.cell? a = some v :=
 (World.cell?_of_block (h.block a.block (World.block_lt_of_cell? w a hc) hs)).trans hc
theorem Only.owns {S : Nat → Prop} {w w' : World} (h : Only S w w') {base e size n : Nat} {v : Value} {xs : List Value} (ho : w.ownsRow base e size v n xs) (hs : ∀ k, v.ownBlock = some k → ¬ S k) : w'.ownsRow base e size v n xs := by
 refine ⟨ho.1, ?_⟩
 rcases ho.2 with hn | ⟨g, cap, cur, rfl, hb, hgg, rest⟩
 ·exact .inl hn
 ·exact .inr ⟨g, cap, cur, rfl, hb, h.heap hgg (hs g rfl), rest⟩
theorem owns_base {w : World} {base base' e size n : Nat} {v : Value} {xs : List Value} (ho : w.ownsRow base e size v n xs) (hb : ∀ k, v.ownBlock = some k → base' ≤ k) : w.ownsRow base' e size v n xs := by
 refine ⟨ho.1, ?_⟩
 rcases ho.2 with hn | ⟨g, cap, cur, rfl, _, rest⟩
 ·exact .inl hn
 ·exact .inr ⟨g, cap, cur, rfl, hb g rfl, rest⟩
def IsByte (z : Int) : Prop := 0 ≤ z ∧ z ≤ 255
def Bytish (zs : List Int) : Prop := ∀ z ∈ zs, IsByte z
theorem Bytish.getD {zs : List Int} (h : Bytish zs) {j : Nat} (hj : j < zs.length) : 0 ≤ zs.getD j 0 ∧ zs.getD j 0 < 256 := by
 have e : zs.getD j 0 = zs[j] := by simp [List.getD, hj]
 rw [e]
 have := h zs[j] (List.getElem_mem hj)
 unfold IsByte at this
 omega
theorem Bytish.drop {zs : List Int} (h : Bytish zs) (k : Nat) : Bytish (zs.drop k) := fun z hz => h z (List.mem_of_mem_drop hz)
theorem Bytish.take {zs : List Int} (h : Bytish zs) (k : Nat) : Bytish (zs.take k) := fun z hz => h z (List.mem_of_mem_take hz)
theorem Bytish.append {zs ys : List Int} (h : Bytish zs) (k : Bytish ys) : Bytish (zs ++ ys) := fun z hz => by
 rcases List.mem_append.1 hz with hz | hz
 ·exact h z hz
 ·exact k z hz
theorem Bytish.nil : Bytish [] := fun _ h => by cases h
def Bytes (w : World) (v : Value) (zs : List Int) : Prop :=
 ∃ ao cap, v = .slice ao zs.length cap ∧ zs.length ≤ cap ∧ cap ≤ maxLen ∧ (ao = none → cap = 0) ∧ Bytish zs ∧
  ∀ x, ao = some x → ∀ j, j < zs.length → w.cell? (x.add j) = some (.int .u8 (zs.getD j 0))
theorem add_block (x : Addr) (j : Nat) : (x.add j).block = x.block := by unfold Addr.add; split <;> rfl
theorem add_lit (b o j : Nat) : (⟨b, o, none⟩ : Addr).add j = ⟨b, o + j, none⟩ := by
 unfold Addr.add
 split
 ·rename_i h0; subst h0; rfl
 ·rfl
theorem spot_of_cell {w : World} {x : Addr} {u : Value} (h : w.cell? x = some u) : x.spot = none := by
 unfold World.cell? at h
 split at h
 ·split at h
  ·cases h
  ·rename_i hs; cases hx : x.spot <;> simp_all
 ·cases h
theorem plain_of_cell {w : World} {x : Addr} {u : Value} (h : w.cell? (x.add 0) = some u) : x = ⟨x.block, x.off, none⟩ := by
 have := spot_of_cell (x := x) (by simpa [Addr.add] using h)
 cases x; simp_all
theorem Bytes.only {S : Nat → Prop} {w w' : World} {v : Value} {zs : List Int} (hb : Bytes w v zs) (h : Only S w w') (hs : ∀ k, v.ownBlock = some k → zs ≠ [] → ¬ S k) : Bytes w' v zs := by
 obtain ⟨ao, cap, rfl, h1, h2, h3, h4, h5⟩ := hb
 refine ⟨ao, cap, rfl, h1, h2, h3, h4, fun x hx j hj => ?_⟩
 subst hx
 exact h.cell (h5 x rfl j hj) (by rw [add_block]; exact hs _ rfl (by intro e; subst e; simp at hj))
theorem Bytes.lt {w : World} {v : Value} {zs : List Int} (hb : Bytes w v zs) : ∀ k, v.ownBlock = some k → zs ≠ [] → k < w.heap.size := by
 obtain ⟨ao, cap, rfl, h1, h2, h3, h4, h5⟩ := hb
 intro k hk hne
 cases ao with
 | none => simp [Value.ownBlock] at hk
 | some x =>
  simp [Value.ownBlock] at hk
  subst hk
  have := World.block_lt_of_cell? w _ (h5 x rfl 0 (List.length_pos_iff.2 hne))
  rwa [add_block] at this
theorem Bytes.below {B : Nat} {w w' : World} {v : Value} {zs : List Int} (hb : Bytes w v zs) (h : Below B w w') (hs : w.heap.size ≤ B) : Bytes w' v zs := by
 have hlt := hb.lt
 obtain ⟨ao, cap, rfl, h1, h2, h3, h4, h5⟩ := hb
 refine ⟨ao, cap, rfl, h1, h2, h3, h4, fun x hx j hj => ?_⟩
 subst hx
 have := hlt x.block rfl (by intro e; subst e; simp at hj)
 exact (h.cell (by rw [add_block]; omega)).trans (h5 x rfl j hj)
theorem Bytes.of_owns {w : World} {B e : Nat} {v : Value} {zs : List Int} (ho : w.ownsRow B e 1 v zs.length (zs.map (Value.int .u8))) (hz : Bytish zs) : Bytes w v zs := by
 have ho' := ho
 rcases ho.2 with ⟨rfl, hn⟩ | ⟨g, cap, cur, rfl, hb, hg, hnc, hcm, hcs, htake⟩
 ·have : zs = [] := List.eq_nil_of_length_eq_zero hn
  subst this
  exact ⟨none, 0, rfl, Nat.le_refl _, by unfold maxLen; omega, fun _ => rfl, hz, fun x hx => by cases hx⟩
 ·refine ⟨some ⟨g, 0, none⟩, cap, rfl, hnc, hcm, (fun h => by cases h), hz, fun x hx j hj => ?_⟩
  cases hx
  have := ho'.cellAt (g := g) (cap := cap) j (by omega)
  rw [add_lit, Nat.zero_add, this, List.getElem?_map, List.getElem?_eq_getElem hj]
  simp [List.getD, hj]
theorem Bytes.of_cells {w : World} {x : Addr} {len cap : Nat} {zs : List Int} (hl : len ≤ cap) (hm : cap ≤ maxLen) (hz : zs.length = cap)
  (hc : ∀ i, i < zs.length → w.cell? (x.add i) = some (.int .u8 (zs.getD i 0))) (hw : ∀ n ∈ zs, (Lit.int .u8 n).wf = true) : Bytes w (.slice (some x) len cap) (zs.take len) := by
 have hlen : (zs.take len).length = len := by simp; omega
 refine ⟨some x, cap, by rw [hlen], by omega, hm, (fun h => by cases h), ?_, fun y hy j hj => ?_⟩
 ·intro z hz'
  have := hw z (List.mem_of_mem_take hz')
  have := bounds_u8 this
  exact this
 ·cases hy
  rw [hlen] at hj
  rw [hc j (by omega)]
  simp [List.getD, hj]
theorem news_bytes {w : World} {x : Addr} {zs : List Int} (h : ∀ j, j < zs.length → w.cell? (x.add j) = some (.int .u8 (zs.getD j 0))) :
  ∀ j u, (zs.map (Value.int .u8))[j]? = some u → w.cell? (x.add j) = some u := by
 intro j u hu
 have hj : j < zs.length := by have := (List.getElem?_eq_some_iff.1 hu).1; simpa using this
 rw [h j hj, ← hu, List.getElem?_map, List.getElem?_eq_getElem hj]
 simp [List.getD, hj]
theorem news_alloc {w : World} {x : Addr} {xs : List Value} (o : Obj) (h : ∀ j u, xs[j]? = some u → w.cell? (x.add j) = some u) : ∀ j u, xs[j]? = some u → (w.alloc o).cell? (x.add j) = some u :=
 fun j u hu => (World.cell?_alloc_lt _ _ _ (World.block_lt_of_cell? w _ (h j u hu))).trans (h j u hu)
theorem run_append_two {P : Program} (w : World) (t ty e : TypeId) (i : TypeInfo) (z : Value) (size bytes : Nat) (ht : P.underlying t = some (.slice e)) (hi : P.info? e = some i) (hz : i.zero = some z)
  (hsize : i.size = size) (hby : i.bytes = bytes) (hzs : z.cells.size = size) (hsz : 0 < size)
  (base : Nat) (v : Value) (n : Nat) (xs : List Value) (hown : w.ownsRow base e size v n xs) (hbase : base ≤ w.heap.size)
  (a : Addr) (m c : Nat) (news : List Value) (hl : news.length = m * size) (hnews : ∀ j u, news[j]? = some u → w.cell? (a.add j) = some u) (h1 : ∀ u ∈ news, u.oneCell' = true)
  (h63 : n + m ≤ maxLen) (hbytes : (n + m) * bytes ≤ 140737488355328) :
  ∃ v' w', (Builtin.append_ #[t, t] ty #[v, .slice (some a) m c]).run P w = .ok v' w' ∧ w'.ownsRow base e size v' (n + m) (xs ++ news) ∧ w.grownBy w' v.ownBlock ∧
   (∀ k, v'.ownBlock = some k → v.ownBlock = some k ∨ w.heap.size ≤ k) := by
 rcases hown.2 with ⟨rfl, rfl⟩ | ⟨g, cap, cur, rfl, hb, hg, hnc, hcm, hcs, htake⟩
 ·have hown' : w.ownsRow w.heap.size e size (.slice none 0 0) 0 xs := ⟨hown.1, .inl ⟨rfl, rfl⟩⟩
  obtain ⟨v', w', h2, h3, h4, _⟩ := run_append_own (P := P) w w.heap.size t ty e i z size bytes ht hi hz hsize hby hzs hsz _ 0 xs hown' a m c news hl hnews h1 h63 hbytes (Nat.le_refl _)
  exact ⟨v', w', h2, owns_base h3 (fun k hk => Nat.le_trans hbase (h3.lt k hk).1), h4, fun k hk => .inr (h3.lt k hk).1⟩
 ·by_cases hroom : n + m ≤ cap
  ·obtain ⟨w', h2, h3, h4⟩ := run_append_fits (P := P) w base t ty e i size ht hi hsize g n cap xs hown a m c news hl hnews h1 hroom
   exact ⟨_, w', h2, h3, h4, fun k hk => .inl hk⟩
  ·obtain ⟨v', w', h2, h3, h4⟩ := run_append_arg_grows (P := P) w t ty e i z size bytes ht hi hz hsize hby hzs hsz ⟨g, 0, none⟩ n cap xs hown.1 (hown.cells rfl) a m c news hl hnews (by omega) h63 hbytes
   exact ⟨v', w', h2, owns_base h3 (fun k hk => Nat.le_trans hbase (h3.lt k hk).1), ⟨h4.os, h4.tape, h4.output, h4.size, fun k hk _ => h4.block k hk (by simp)⟩, fun k hk => .inr (h3.lt k hk).1⟩
def Src (w : World) (size : Nat) (src : Value) (m : Nat) (news : List Value) : Prop :=
 news.length = m * size ∧ (∀ u ∈ news, u.oneCell' = true) ∧ ∃ ao c, src = .slice ao m c ∧ (ao = none → m = 0 ∧ c = 0) ∧ ∀ ad, ao = some ad → ∀ j u, news[j]? = some u → w.cell? (ad.add j) = some u
theorem Src.of_bytes {w : World} {v : Value} {zs : List Int} (h : Bytes w v zs) : Src w 1 v zs.length (zs.map (Value.int .u8)) := by
 obtain ⟨ao, cap, rfl, h1, h2, h3, h4, h5⟩ := h
 exact ⟨by simp, ints_oneCell _ _, ao, cap, rfl, fun e => ⟨by have := h3 e; omega, h3 e⟩, fun ad hd => news_bytes (h5 ad hd)⟩
theorem Src.alloc {w : World} {size m : Nat} {v : Value} {news : List Value} (h : Src w size v m news) (o : Obj) : Src (w.alloc o) size v m news := by
 obtain ⟨h1, h2, ao, c, rfl, h3, h4⟩ := h
 exact ⟨h1, h2, ao, c, rfl, h3, fun ad hd => news_alloc o (h4 ad hd)⟩
theorem run_append_src {P : Program} (w : World) (t ty e : TypeId) (i : TypeInfo) (z : Value) (size bytes : Nat) (ht : P.underlying t = some (.slice e)) (hi : P.info? e = some i) (hz : i.zero = some z)
  (hsize : i.size = size) (hby : i.bytes = bytes) (hzs : z.cells.size = size) (hsz : 0 < size)
  (base : Nat) (v : Value) (n : Nat) (xs : List Value) (hown : w.ownsRow base e size v n xs) (hbase : base ≤ w.heap.size)
  (src : Value) (m : Nat) (news : List Value) (hsrc : Src w size src m news) (h63 : n + m ≤ maxLen) (hbytes : (n + m) * bytes ≤ 140737488355328) :
  ∃ v' w', (Builtin.append_ #[t, t] ty #[v, src]).run P w = .ok v' w' ∧ w'.ownsRow base e size v' (n + m) (xs ++ news) ∧ w.grownBy w' v.ownBlock ∧
   (∀ k, v'.ownBlock = some k → v.ownBlock = some k ∨ w.heap.size ≤ k) := by
 obtain ⟨hl, h1, ao, c, rfl, hn, hc⟩ := hsrc
 cases ao with
 | none =>
  obtain ⟨rfl, rfl⟩ := hn rfl
  have hnil : news = [] := List.eq_nil_of_length_eq_zero (by simpa using hl)
  subst hnil
  exact ⟨v, w, run_append_owned_none w base t ty e i size ht hi v n xs hown, by simpa using hown, World.grownBy.refl _ _, fun k hk => .inl hk⟩
 | some ad => exact run_append_two w t ty e i z size bytes ht hi hz hsize hby hzs hsz base v n xs hown hbase ad m c news hl (hc ad rfl) h1 h63 hbytes
theorem wp_append_src {P : Program} {o : Oper} {a : Act} {w : World} {K : Act → World → Prop} {Q : Exit → Act → World → Prop} (s x : Operand) (t : TypeId)
  (ho : o.op = .call { callee := .builtin .append, args := #[s, x], argTypes := #[t, t] })
  (e : TypeId) (i : TypeInfo) (z : Value) (size bytes : Nat) (ht : P.underlying t = some (.slice e)) (hi : P.info? e = some i) (hz : i.zero = some z)
  (hsize : i.size = size) (hby : i.bytes = bytes) (hzs : z.cells.size = size) (hsz : 0 < size)
  (base : Nat) (v : Value) (n : Nat) (xs : List Value) (hs : a.eval s = v) (hown : w.ownsRow base e size v n xs) (hbase : base ≤ w.heap.size)
  (src : Value) (m : Nat) (news : List Value) (hx : a.eval x = src) (hsrc : Src w size src m news)
  (h63 : n + m ≤ maxLen) (hbytes : (n + m) * bytes ≤ 140737488355328)
  (h : ∀ v' w', w'.ownsRow base e size v' (n + m) (xs ++ news) → w.grownBy w' v.ownBlock → (∀ k, v'.ownBlock = some k → v.ownBlock = some k ∨ w.heap.size ≤ k) → K (a.put o.dst v') w') : o.wp P a w K Q := by
 obtain ⟨v', w', hr, h2, h3, h4⟩ := run_append_src (P := P) w t o.type e i z size bytes ht hi hz hsize hby hzs hsz base v n xs hown hbase src m news hsrc h63 hbytes
 unfold Oper.wp execOp
 simp only [ho, resolve, invoke, builtin, Sem.run_bind, Sem.run_pure, Result.andThen_ok, List.map_toArray, List.map_cons, List.map_nil, hs, hx, hr]
 exact h v' w' h2 h3 h4
theorem step_append_src {P : Program} {ops : Array Oper} {o : Oper} {a : Act} {w : World} {K : Act → World → Prop} {Q : Exit → Act → World → Prop} {E : Prop} (hgd : o.guard = none) (s x : Operand) (t : TypeId)
  (ho : o.op = .call { callee := .builtin .append, args := #[s, x], argTypes := #[t, t] })
  (e : TypeId) (i : TypeInfo) (z : Value) (size bytes : Nat) (ht : P.underlying t = some (.slice e)) (hi : P.info? e = some i) (hz : i.zero = some z)
  (hsize : i.size = size) (hby : i.bytes = bytes) (hzs : z.cells.size = size) (hsz : 0 < size)
  (base : Nat) (v : Value) (n : Nat) (xs : List Value) (hs : a.eval s = v) (hown : w.ownsRow base e size v n xs) (hbase : base ≤ w.heap.size)
  (src : Value) (m : Nat) (news : List Value) (hx : a.eval x = src) (hsrc : Src w size src m news)
  (h63 : n + m ≤ maxLen) (hbytes : (n + m) * bytes ≤ 140737488355328)
  (h : ∀ v' w', w'.ownsRow base e size v' (n + m) (xs ++ news) → w.grownBy w' v.ownBlock → (∀ k, v'.ownBlock = some k → v.ownBlock = some k ∨ w.heap.size ≤ k) → K (a.put o.dst v') w') :
  if Region.wanted o (yielded ops a.tmps) = true then Oper.wp P o a w K Q else E := by
 rw [if_pos (by simp [Region.wanted, hgd])]
 exact wp_append_src s x t ho e i z size bytes ht hi hz hsize hby hzs hsz base v n xs hs hown hbase src m news hx hsrc h63 hbytes h
theorem wpList_append_src {P : Program} {ops : Array Oper} {rest : List Oper} {o : Oper} {a : Act} {w : World} {Q : Exit → Act → World → Prop} (hgd : o.guard = none) (s x : Operand) (t : TypeId)
  (ho : o.op = .call { callee := .builtin .append, args := #[s, x], argTypes := #[t, t] })
  (e : TypeId) (i : TypeInfo) (z : Value) (size bytes : Nat) (ht : P.underlying t = some (.slice e)) (hi : P.info? e = some i) (hz : i.zero = some z)
  (hsize : i.size = size) (hby : i.bytes = bytes) (hzs : z.cells.size = size) (hsz : 0 < size)
  (base : Nat) (v : Value) (n : Nat) (xs : List Value) (hs : a.eval s = v) (hown : w.ownsRow base e size v n xs) (hbase : base ≤ w.heap.size)
  (src : Value) (m : Nat) (news : List Value) (hx : a.eval x = src) (hsrc : Src w size src m news)
  (h63 : n + m ≤ maxLen) (hbytes : (n + m) * bytes ≤ 140737488355328)
  (h : ∀ v' w', w'.ownsRow base e size v' (n + m) (xs ++ news) → w.grownBy w' v.ownBlock → (∀ k, v'.ownBlock = some k → v.ownBlock = some k ∨ w.heap.size ≤ k) → wpList P ops Q rest (a.put o.dst v') w') : wpList P ops Q (o :: rest) a w :=
 wpList_plain hgd fun _ hK => wp_append_src s x t ho e i z size bytes ht hi hz hsize hby hzs hsz base v n xs hs hown hbase src m news hx hsrc h63 hbytes fun v' w' h2 h3 h4 => hK _ _ (h v' w' h2 h3 h4)
end Go.Proofs.YtinbelghhfodiaaGreatDoor
namespace Go.Proofs.YtinbelghhfodiaaGreatDoor
set_option maxHeartbeats 2000000
open Go.Lib
set_option linter.unusedVariables false
def Sc (c : Int) : Prop := (0 ≤ c ∧ c < 55296) ∨ (57344 ≤ c ∧ c ≤ 1114111)
def AllSc (cs : List Int) : Prop := ∀ c ∈ cs, Sc c
def enc8 (c : Int) : List Int := Lib.encodeRuneZ c
def unitZ (u : Int) : List Int := if 1 ≤ u ∧ u ≤ 127 then [u] else if u ≤ 2047 then [192 + u / 64, 128 + u % 64] else [224 + u / 4096, 128 + u / 64 % 64, 128 + u % 64]
def hiU (c : Int) : Int := 55296 + (c - 65536) / 1024
def loU (c : Int) : Int := 56320 + (c - 65536) % 1024
def m8 (c : Int) : List Int := if c < 65536 then unitZ c else unitZ (hiU c) ++ unitZ (loU c)
theorem unitZ_one {u : Int} (h0 : 1 ≤ u) (h1 : u ≤ 127) : unitZ u = [u] := by unfold unitZ; rw [if_pos ⟨h0, h1⟩]
theorem unitZ_two {u : Int} (h : u = 0 ∨ 128 ≤ u) (h1 : u ≤ 2047) : unitZ u = [192 + u / 64, 128 + u % 64] := by unfold unitZ; rw [if_neg (by omega), if_pos h1]
theorem unitZ_three {u : Int} (h : 2048 ≤ u) : unitZ u = [224 + u / 4096, 128 + u / 64 % 64, 128 + u % 64] := by unfold unitZ; rw [if_neg (by omega), if_neg (by omega)]
theorem u8_cases {c : Int} (h : Sc c) :
  (0 ≤ c ∧ c ≤ 127 ∧ enc8 c = [c]) ∨ (128 ≤ c ∧ c ≤ 2047 ∧ enc8 c = [192 + c / 64, 128 + c % 64]) ∨
  (2048 ≤ c ∧ (c < 55296 ∨ 57344 ≤ c) ∧ c ≤ 65535 ∧ enc8 c = [224 + c / 4096, 128 + c / 64 % 64, 128 + c % 64]) ∨
  (65536 ≤ c ∧ c ≤ 1114111 ∧ enc8 c = [240 + c / 262144, 128 + c / 4096 % 64, 128 + c / 64 % 64, 128 + c % 64]) := by
 unfold Sc at h
 unfold enc8
 by_cases h1 : c ≤ 127
 ·exact .inl ⟨by omega, h1, encodeRuneZ_one (by omega) h1⟩
 by_cases h2 : c ≤ 2047
 ·exact .inr (.inl ⟨by omega, h2, encodeRuneZ_two (by omega) h2⟩)
 by_cases h3 : c ≤ 65535
 ·exact .inr (.inr (.inl ⟨by omega, by omega, h3, encodeRuneZ_three (by omega)⟩))
 ·exact .inr (.inr (.inr ⟨by omega, by omega, encodeRuneZ_four (by omega) (by omega)⟩))
theorem m8_cases {c : Int} (h : Sc c) :
  (1 ≤ c ∧ c ≤ 127 ∧ m8 c = [c]) ∨ ((c = 0 ∨ 128 ≤ c) ∧ c ≤ 2047 ∧ m8 c = [192 + c / 64, 128 + c % 64]) ∨
  (2048 ≤ c ∧ (c < 55296 ∨ 57344 ≤ c) ∧ c ≤ 65535 ∧ m8 c = [224 + c / 4096, 128 + c / 64 % 64, 128 + c % 64]) ∨
  (65536 ≤ c ∧ c ≤ 1114111 ∧ m8 c = [224 + hiU c / 4096, 128 + hiU c / 64 % 64, 128 + hiU c % 64, 224 + loU c / 4096, 128 + loU c / 64 % 64, 128 + loU c % 64]) := by
 unfold Sc at h
 unfold m8
 by_cases h3 : c ≤ 65535
 ·rw [if_pos (by omega)]
  by_cases h1 : 1 ≤ c ∧ c ≤ 127
  ·exact .inl ⟨h1.1, h1.2, unitZ_one h1.1 h1.2⟩
  by_cases h2 : c ≤ 2047
  ·exact .inr (.inl ⟨by omega, h2, unitZ_two (by omega) h2⟩)
  ·exact .inr (.inr (.inl ⟨by omega, by omega, h3, unitZ_three (by omega)⟩))
 ·rw [if_neg (by omega)]
  refine .inr (.inr (.inr ⟨by omega, by omega, ?_⟩))
  rw [unitZ_three (by unfold hiU; omega), unitZ_three (by unfold loU; omega)]
  rfl
theorem u8_len {c : Int} (h : Sc c) : 1 ≤ (enc8 c).length ∧ (enc8 c).length ≤ 4 := by
 rcases u8_cases h with ⟨_, _, e⟩ | ⟨_, _, e⟩ | ⟨_, _, _, e⟩ | ⟨_, _, e⟩ <;> rw [e] <;> simp
theorem m8_len {c : Int} (h : Sc c) : (enc8 c).length ≤ (m8 c).length ∧ (m8 c).length ≤ 2 * (enc8 c).length := by
 rcases u8_cases h with ⟨_, _, e⟩ | ⟨_, _, e⟩ | ⟨_, _, _, e⟩ | ⟨_, _, e⟩ <;> rcases m8_cases h with ⟨_, _, e'⟩ | ⟨_, _, e'⟩ | ⟨_, _, _, e'⟩ | ⟨_, _, e'⟩ <;> rw [e, e'] <;> first | (exfalso; omega) | simp
theorem m8_le {c : Int} (h : Sc c) : 1 ≤ (m8 c).length ∧ (m8 c).length ≤ 6 := by
 rcases m8_cases h with ⟨_, _, e⟩ | ⟨_, _, e⟩ | ⟨_, _, _, e⟩ | ⟨_, _, e⟩ <;> rw [e] <;> simp
theorem u8_inj {c d : Int} {r r' : List Int} (hc : Sc c) (hd : Sc d) (h : enc8 c ++ r = enc8 d ++ r') : c = d ∧ r = r' := by
 rcases u8_cases hc with ⟨_, _, e⟩ | ⟨_, _, e⟩ | ⟨_, _, _, e⟩ | ⟨_, _, e⟩ <;> rcases u8_cases hd with ⟨_, _, e'⟩ | ⟨_, _, e'⟩ | ⟨_, _, _, e'⟩ | ⟨_, _, e'⟩ <;> rw [e, e'] at h <;> simp only [List.cons_append, List.nil_append, List.cons.injEq] at h <;> first | (exfalso; omega) | exact ⟨by omega, by simp_all⟩
theorem m8_inj {c d : Int} {r r' : List Int} (hc : Sc c) (hd : Sc d) (h : m8 c ++ r = m8 d ++ r') : c = d ∧ r = r' := by
 unfold Sc at hc hd
 rcases m8_cases hc with ⟨_, _, e⟩ | ⟨_, _, e⟩ | ⟨_, _, _, e⟩ | ⟨_, _, e⟩ <;> rcases m8_cases hd with ⟨_, _, e'⟩ | ⟨_, _, e'⟩ | ⟨_, _, _, e'⟩ | ⟨_, _, e'⟩ <;> rw [e, e'] at h <;> simp only [List.cons_append, List.nil_append, List.cons.injEq, hiU, loU] at h <;> first | (exfalso; omega) | exact ⟨by omega, by simp_all⟩
def U8s (cs : List Int) : List Int := cs.flatMap enc8
def M8s (cs : List Int) : List Int := cs.flatMap m8
theorem U8s_nil : U8s [] = [] := rfl
theorem M8s_nil : M8s [] = [] := rfl
theorem U8s_cons (c : Int) (cs : List Int) : U8s (c :: cs) = enc8 c ++ U8s cs := by simp [U8s]
theorem M8s_cons (c : Int) (cs : List Int) : M8s (c :: cs) = m8 c ++ M8s cs := by simp [M8s]
theorem U8s_append (a b : List Int) : U8s (a ++ b) = U8s a ++ U8s b := by simp [U8s]
theorem M8s_append (a b : List Int) : M8s (a ++ b) = M8s a ++ M8s b := by simp [M8s]
theorem AllSc.cons {c : Int} {cs : List Int} (h : AllSc (c :: cs)) : Sc c ∧ AllSc cs := ⟨h c (by simp), fun d hd => h d (by simp [hd])⟩
theorem AllSc.mk {c : Int} {cs : List Int} (h : Sc c) (hs : AllSc cs) : AllSc (c :: cs) := fun d hd => by
 rcases List.mem_cons.1 hd with rfl | hd
 ·exact h
 ·exact hs d hd
theorem AllSc.nil : AllSc [] := fun _ h => by cases h
theorem AllSc.append {a b : List Int} (ha : AllSc a) (hb : AllSc b) : AllSc (a ++ b) := fun d hd => by
 rcases List.mem_append.1 hd with hd | hd
 ·exact ha d hd
 ·exact hb d hd
theorem U8s_inj : ∀ {a b : List Int}, AllSc a → AllSc b → U8s a = U8s b → a = b
 | [], [], _, _, _ => rfl
 | [], d :: b, _, hb, h => by
  rw [U8s_nil, U8s_cons] at h
  have := (u8_len hb.cons.1).1
  have e := congrArg List.length h
  simp only [List.length_append, List.length_nil] at e
  omega
 | c :: a, [], ha, _, h => by
  rw [U8s_nil, U8s_cons] at h
  have := (u8_len ha.cons.1).1
  have e := congrArg List.length h
  simp only [List.length_append, List.length_nil] at e
  omega
 | c :: a, d :: b, ha, hb, h => by
  rw [U8s_cons, U8s_cons] at h
  obtain ⟨rfl, h2⟩ := u8_inj ha.cons.1 hb.cons.1 h
  rw [U8s_inj ha.cons.2 hb.cons.2 h2]
theorem M8s_inj : ∀ {a b : List Int}, AllSc a → AllSc b → M8s a = M8s b → a = b
 | [], [], _, _, _ => rfl
 | [], d :: b, _, hb, h => by
  rw [M8s_nil, M8s_cons] at h
  have := (m8_le hb.cons.1).1
  have e := congrArg List.length h
  simp only [List.length_append, List.length_nil] at e
  omega
 | c :: a, [], ha, _, h => by
  rw [M8s_nil, M8s_cons] at h
  have := (m8_le ha.cons.1).1
  have e := congrArg List.length h
  simp only [List.length_append, List.length_nil] at e
  omega
 | c :: a, d :: b, ha, hb, h => by
  rw [M8s_cons, M8s_cons] at h
  obtain ⟨rfl, h2⟩ := m8_inj ha.cons.1 hb.cons.1 h
  rw [M8s_inj ha.cons.2 hb.cons.2 h2]
theorem M8s_len : ∀ {cs : List Int}, AllSc cs → (U8s cs).length ≤ (M8s cs).length ∧ (M8s cs).length ≤ 2 * (U8s cs).length
 | [], _ => by simp [U8s_nil, M8s_nil]
 | c :: cs, h => by
  rw [U8s_cons, M8s_cons, List.length_append, List.length_append]
  have := M8s_len h.cons.2
  have := m8_len h.cons.1
  omega
def IsText (zs : List Int) (cs : List Int) : Prop := AllSc cs ∧ zs = U8s cs
def IsMod (zs : List Int) (cs : List Int) : Prop := AllSc cs ∧ zs = M8s cs
def Enc (zs ys : List Int) (k : Int) : Prop := (∃ cs, IsText zs cs ∧ ys = M8s cs ∧ k = 0) ∨ ((¬ ∃ cs, IsText zs cs) ∧ ys = [] ∧ k = 20)
def Dec (zs ys : List Int) (k : Int) : Prop := (∃ cs, IsMod zs cs ∧ ys = U8s cs ∧ k = 0) ∨ ((¬ ∃ cs, IsMod zs cs) ∧ ys = [] ∧ k = 20)
theorem Enc.unique {zs ys ys' : List Int} {k k' : Int} (h : Enc zs ys k) (h' : Enc zs ys' k') : ys = ys' ∧ k = k' := by
 rcases h with ⟨cs, ht, rfl, rfl⟩ | ⟨hn, rfl, rfl⟩ <;> rcases h' with ⟨ds, ht', rfl, rfl⟩ | ⟨hn', rfl, rfl⟩
 ·rw [U8s_inj ht.1 ht'.1 (ht.2.symm.trans ht'.2)]; exact ⟨rfl, rfl⟩
 ·exact absurd ⟨cs, ht⟩ hn'
 ·exact absurd ⟨ds, ht'⟩ hn
 ·exact ⟨rfl, rfl⟩
theorem Dec.unique {zs ys ys' : List Int} {k k' : Int} (h : Dec zs ys k) (h' : Dec zs ys' k') : ys = ys' ∧ k = k' := by
 rcases h with ⟨cs, ht, rfl, rfl⟩ | ⟨hn, rfl, rfl⟩ <;> rcases h' with ⟨ds, ht', rfl, rfl⟩ | ⟨hn', rfl, rfl⟩
 ·rw [M8s_inj ht.1 ht'.1 (ht.2.symm.trans ht'.2)]; exact ⟨rfl, rfl⟩
 ·exact absurd ⟨cs, ht⟩ hn'
 ·exact absurd ⟨ds, ht'⟩ hn
 ·exact ⟨rfl, rfl⟩
theorem no_text {zs : List Int} (hne : zs ≠ []) (h : ∀ c r, Sc c → zs ≠ enc8 c ++ r) : ¬ ∃ cs, IsText zs cs := by
 rintro ⟨cs, hs, rfl⟩
 cases cs with
 | nil => exact hne rfl
 | cons c cs => exact h c (U8s cs) hs.cons.1 (U8s_cons c cs)
theorem text_tail {c : Int} {r : List Int} (hc : Sc c) : (∃ cs, IsText (enc8 c ++ r) cs) ↔ ∃ cs, IsText r cs := by
 constructor
 ·rintro ⟨cs, hs, h⟩
  cases cs with
  | nil => have := (u8_len hc).1; have e := congrArg List.length h; simp [U8s_nil] at e; rw [e.1] at this; simp at this
  | cons d cs => rw [U8s_cons] at h; exact ⟨cs, hs.cons.2, (u8_inj hc hs.cons.1 h).2⟩
 ·rintro ⟨cs, hs, rfl⟩
  exact ⟨c :: cs, .mk hc hs, (U8s_cons c cs).symm⟩
theorem text_tails {cs : List Int} (hcs : AllSc cs) {r : List Int} : (∃ ds, IsText (U8s cs ++ r) ds) ↔ ∃ ds, IsText r ds := by
 induction cs with
 | nil => rfl
 | cons c cs ih => rw [U8s_cons, List.append_assoc, text_tail hcs.cons.1]; exact ih hcs.cons.2
def numsL (l : List UInt8) : List Int := l.map fun b => (b.toNat : Int)
def nums (s : ByteArray) : List Int := numsL s.data.toList
theorem nums_len (s : ByteArray) : (nums s).length = s.size := by simp [nums, numsL]
theorem nums_get (s : ByteArray) (i : Nat) : (nums s).getD i 0 = ((s.get! i).toNat : Int) := by
 rw [← getD_get!']
 simp only [nums, numsL, List.getD, List.getElem?_map]
 cases s.data.toList[i]? <;> rfl
theorem numsL_getD (l : List UInt8) (i : Nat) : (numsL l).getD i 0 = ((l.getD i 0).toNat : Int) := by
 simp only [numsL, List.getD, List.getElem?_map]
 cases l[i]? <;> rfl
theorem str_nums (s : ByteArray) : strOfNums (nums s) = s := by
 have e : (strOfNums (nums s)).data.toList = s.data.toList := by
  rw [strOfNums_data, nums, numsL, List.map_map]
  conv => rhs; rw [← List.map_id s.data.toList]
  apply List.map_congr_left
  intro b _
  simp
 have e2 : (strOfNums (nums s)).data = s.data := Array.toList_inj.1 e
 cases h : strOfNums (nums s); cases s
 rw [h] at e2
 simp at e2
 rw [e2]
theorem encodeRune_nums (c : Int) : numsL (Lib.encodeRune c) = enc8 c := by
 unfold numsL Lib.encodeRune enc8
 rw [List.map_map]
 conv => rhs; rw [← List.map_id (Lib.encodeRuneZ c)]
 apply List.map_congr_left
 intro z hz
 have := encodeRuneZ_byte c z hz
 simp [Function.comp]
 omega
theorem dec_head {l : List UInt8} {c : Int} {r : List Int} (hc : Sc c) (h : numsL l = enc8 c ++ r) : decodeL l = (c.toNat, (enc8 c).length) := by
 have hk : ∀ k, ((l.getD k 0).toNat : Int) = (enc8 c ++ r).getD k 0 := fun k => by rw [← h, numsL_getD]
 have hl : l.length = (enc8 c ++ r).length := by rw [← h]; simp [numsL]
 rw [decodeL_N]
 have k0 := hk 0; have k1 := hk 1; have k2 := hk 2; have k3 := hk 3
 have l0 := (l.getD 0 0).toNat_lt; have l1 := (l.getD 1 0).toNat_lt; have l2 := (l.getD 2 0).toNat_lt; have l3 := (l.getD 3 0).toNat_lt
 generalize (l.getD 0 0).toNat = b0 at *
 generalize (l.getD 1 0).toNat = b1 at *
 generalize (l.getD 2 0).toNat = b2 at *
 generalize (l.getD 3 0).toNat = b3 at *
 generalize l.length = n at *
 clear hk h
 rcases u8_cases hc with ⟨_, _, e⟩ | ⟨_, _, e⟩ | ⟨_, _, _, e⟩ | ⟨_, _, e⟩ <;> rw [e] at k0 k1 k2 k3 hl ⊢ <;> simp at k0 k1 k2 k3 hl ⊢ <;> unfold decodeN
 ·rw [if_pos (by omega)]
  exact Prod.ext (by simp only; omega) rfl
 ·rw [if_neg (by omega), if_pos (by omega), if_pos (by omega)]
  exact Prod.ext (by simp only; omega) rfl
 ·rw [if_neg (by omega), if_neg (by omega), if_pos (by omega), if_pos (by omega)]
  exact Prod.ext (by simp only; omega) rfl
 ·rw [if_neg (by omega), if_neg (by omega), if_neg (by omega), if_pos (by omega), if_pos (by omega)]
  exact Prod.ext (by simp only; omega) rfl
theorem dec_sc (l : List UInt8) (hv : ¬ ((decodeL l).1 = 65533 ∧ (decodeL l).2 = 1)) : Sc ((decodeL l).1 : Int) := by
 rw [decodeL_N] at hv ⊢
 have k0 := (l.getD 0 0).toNat_lt
 unfold Sc
 rcases decodeN_shape l.length (l.getD 0 0).toNat (l.getD 1 0).toNat (l.getD 2 0).toNat (l.getD 3 0).toNat with ⟨c, e⟩ | ⟨c1, c2, c3, cv, e⟩ | ⟨c1, c2, c3, c4, cv, cs, e⟩ | ⟨c1, c2, c3, c4, c5, cv, cw, e⟩ | e <;> rw [e] at hv ⊢ <;> simp only at hv ⊢ <;> omega
theorem valid_text : ∀ (n : Nat) (l : List UInt8), l.length ≤ n → (Lib.validD l = true ↔ ∃ cs, IsText (numsL l) cs)
 | 0, l, hn => by
  have : l = [] := List.eq_nil_of_length_eq_zero (by omega)
  subst this
  exact ⟨fun _ => ⟨[], .nil, rfl⟩, fun _ => rfl⟩
 | n + 1, l, hn => by
  by_cases hne : l = []
  ·subst hne; exact ⟨fun _ => ⟨[], .nil, rfl⟩, fun _ => rfl⟩
  rw [validD_step l hne]
  by_cases hv : (decodeL l).1 = 65533 ∧ (decodeL l).2 = 1
  ·rw [if_pos hv]
   refine ⟨fun h => by simp at h, fun h => ?_⟩
   exfalso
   refine no_text (zs := numsL l) (by intro e; exact hne (by simpa [numsL] using e)) (fun c r hc he => ?_) h
   have := dec_head hc he
   rw [this] at hv
   rcases u8_cases hc with ⟨_, _, e⟩ | ⟨_, _, e⟩ | ⟨_, _, _, e⟩ | ⟨_, _, e⟩ <;> rw [e] at hv <;> simp at hv <;> omega
  ·rw [if_neg hv]
   have hw := decodeL_width l
   rw [valid_text n _ (by rw [List.length_drop]; omega)]
   have hs := dec_sc l hv
   have he := encode_decode l hne hv
   have e2 : numsL l = enc8 ((decodeL l).1 : Int) ++ numsL (l.drop (decodeL l).2) := by
    rw [← encodeRune_nums, he]
    simp only [numsL, ← List.map_append, List.take_append_drop]
   rw [e2, text_tail hs]
end Go.Proofs.YtinbelghhfodiaaGreatDoor
namespace Go.Proofs.YtinbelghhfodiaaGreatDoor
set_option maxHeartbeats 2000000
open Go.RowKit
theorem info_u8 : (Tryz.prog.info? 5).map (fun i => (i.zero, i.size, i.bytes)) = some (some (.int .u8 0), 1, 1) := by kernel_rfl
theorem cell_blk {w : World} {b : Nat} {c : Array Value} {t : TypeId} {f : Nat × Nat} (h : w.heap[b]? = some (.cells c t f)) (i : Nat) : w.cell? ⟨b, i, none⟩ = c[i]? := by simp [World.cell?, h]
theorem frozen_blk {w : World} {b : Nat} {c : Array Value} {t : TypeId} (h : w.heap[b]? = some (.cells c t (0, 0))) (i : Nat) : w.frozen? ⟨b, i, none⟩ = false := by simp [World.frozen?, h]
theorem slice_of_owns {w : World} {B e size n : Nat} {v : Value} {xs : List Value} (h : w.ownsRow B e size v n xs) : ∃ ao cap, v = .slice ao n cap ∧ n ≤ cap ∧ cap ≤ maxLen := by
 rcases h.2 with ⟨rfl, rfl⟩ | ⟨g, cap, cur, rfl, _, _, h1, h2, _⟩
 ·exact ⟨none, 0, rfl, Nat.le_refl _, Nat.zero_le _⟩
 ·exact ⟨_, cap, rfl, h1, h2⟩
theorem heap_setCell_at {w : World} {b i : Nat} {c : Array Value} {t : TypeId} {f : Nat × Nat} {u : Value} (h : w.heap[b]? = some (.cells c t f)) : (w.setCell ⟨b, i, none⟩ u).heap[b]? = some (.cells (c.setIfInBounds i u) t f) := by
 simp [World.setCell, Array.getElem?_modify, h]
theorem Src.few {w : World} {t : TypeId} {xs : List Value} (hu : ∀ u ∈ xs, u.oneCell' = true) : Src (w.alloc (.cells xs.toArray t)) 1 (.slice (some ⟨w.heap.size, 0, none⟩) xs.length xs.length) xs.length xs := by
 refine ⟨by simp, hu, _, xs.length, rfl, (fun e => by cases e), fun ad hd j u hj => ?_⟩
 cases hd
 rw [add_lit, Nat.zero_add, cell_blk (heap_alloc_new w _)]
 simpa using hj
def Row (w : World) (B : Nat) (v : Value) (ys : List Int) : Prop := w.ownsRow B 5 1 v ys.length (ys.map (Value.int .u8))
def RowTo (w : World) (B : Nat) (v : Value) (ys : List Int) (v' : Value) (w' : World) : Prop :=
 Row w' B v' ys ∧ Only (fun k => v.ownBlock = some k) w w' ∧ (∀ k, v'.ownBlock = some k → v.ownBlock = some k ∨ w.heap.size ≤ k)
theorem RowTo.of {w wa w1 : World} {B : Nat} {v v' : Value} {ys zs : List Int} (ha : Only (fun _ => False) w wa) (hown : w1.ownsRow B 5 1 v' (ys.length + zs.length) (ys.map (Value.int .u8) ++ zs.map (Value.int .u8))) (hg : wa.grownBy w1 v.ownBlock)
  (hn : ∀ k, v'.ownBlock = some k → v.ownBlock = some k ∨ wa.heap.size ≤ k) : RowTo w B v (ys ++ zs) v' w1 := by
 refine ⟨by unfold Row; rw [List.length_append, List.map_append]; exact hown, (ha.mono (fun _ h _ => h.elim)).grown hg (fun k hk _ => hk), fun k hk => ?_⟩
 rcases hn k hk with h | h
 ·exact .inl h
 ·exact .inr (Nat.le_trans ha.size h)
def Drawn (w w' : World) : Prop := ∃ nq, w' = w.drewN nq
theorem Drawn.only {S : Nat → Prop} {w w' : World} (h : Drawn w w') : Only S w w' := by
 obtain ⟨n, rfl⟩ := h
 exact (Only.refl _ _).drewN n
theorem Drawn.refl (w : World) : Drawn w w := ⟨0, rfl⟩
theorem Drawn.cell {w w' : World} (h : Drawn w w') (a : Addr) : w'.cell? a = w.cell? a := by obtain ⟨n, rfl⟩ := h; rfl
theorem Drawn.frozen {w w' : World} (h : Drawn w w') (a : Addr) : w'.frozen? a = w.frozen? a := by obtain ⟨n, rfl⟩ := h; rfl
theorem Row.only {S : Nat → Prop} {w w' : World} {B : Nat} {v : Value} {ys : List Int} (h : Row w B v ys) (ho : Only S w w') (hs : ∀ k, v.ownBlock = some k → ¬ S k) : Row w' B v ys := ho.owns h hs
theorem Row.ge {w : World} {B : Nat} {v : Value} {ys : List Int} (h : Row w B v ys) : ∀ k, v.ownBlock = some k → B ≤ k ∧ k < w.heap.size := fun k hk => World.ownsRow.lt h k hk
theorem Row.new {w : World} {xs : List Int} : xs.length ≤ maxLen → Row (w.alloc (.cells (xs.map (Value.int .u8)).toArray 5)) w.heap.size (.slice (some ⟨w.heap.size, 0, none⟩) xs.length xs.length) xs :=
 fun hm => ⟨by simp, .inr ⟨w.heap.size, xs.length, _, rfl, Nat.le_refl _, heap_alloc_new w _, Nat.le_refl _, hm, by simp, by rw [Nat.mul_one, List.take_of_length_le (by simp)]⟩⟩
theorem Row.push {w w2 w3 : World} {v v' : Value} {ys zs : List Int} (hr : Row w2 w.heap.size v ys) (hon : Only (fun _ => False) w w2)
  (hown : w3.ownsRow w.heap.size 5 1 v' (ys.length + zs.length) (ys.map (Value.int .u8) ++ zs.map (Value.int .u8))) (hg : w2.grownBy w3 v.ownBlock) (hn : ∀ k, v'.ownBlock = some k → v.ownBlock = some k ∨ w2.heap.size ≤ k) :
  Row w3 w.heap.size v' (ys ++ zs) ∧ Only (fun _ => False) w w3 := by
 have R := RowTo.of (Only.refl _ w2) hown hg hn
 exact ⟨R.1, hon.trans R.2.1 (fun k hk hl => by have := hr.ge k hk; omega)⟩
theorem Row.bytes {w : World} {B : Nat} {v : Value} {ys : List Int} (h : Row w B v ys) (hz : Bytish ys) : Bytes w v ys := Bytes.of_owns h hz
set_option linter.unusedSimpArgs false
structure ConstV where
 tag : Int
 text : ByteArray
 n : Int
 a : Int
 b : Int
instance : Inhabited ConstV := ⟨⟨0, ⟨#[]⟩, 0, 0, 0⟩⟩
def I64 (z : Int) : Prop := -9223372036854775808 ≤ z ∧ z ≤ 9223372036854775807
structure ConstAt (w : World) (b o : Nat) (i : Nat) (c : ConstV) : Prop where
 c0 : w.cell? ⟨b, o + i * 5, none⟩ = some (.int .i64 c.tag)
 c1 : w.cell? ⟨b, o + i * 5 + 1, none⟩ = some (.string c.text)
 c2 : w.cell? ⟨b, o + i * 5 + 2, none⟩ = some (.int .i64 c.n)
 c3 : w.cell? ⟨b, o + i * 5 + 3, none⟩ = some (.int .i64 c.a)
 c4 : w.cell? ⟨b, o + i * 5 + 4, none⟩ = some (.int .i64 c.b)
structure ConstR (c : ConstV) : Prop where
 r0 : I64 c.tag
 r2 : I64 c.n
 r3 : I64 c.a
 r4 : I64 c.b
 rt : c.text.size ≤ 140737488351232
def Pool (w : World) (v : Value) (cs : List ConstV) : Prop :=
 ∃ ao cap, v = .slice ao cs.length cap ∧ cs.length ≤ cap ∧ cap ≤ 9223372036854775807 ∧ (ao = none → cap = 0) ∧ (∀ c ∈ cs, ConstR c) ∧
  ∀ x, ao = some x → 0 < cs.length → ∃ b o, x = ⟨b, o, none⟩ ∧ ∀ i, i < cs.length → ConstAt w b o i (cs.getD i default)
theorem ConstAt.only {S : Nat → Prop} {w w' : World} {b o i : Nat} {c : ConstV} (h : ConstAt w b o i c) (ho : Only S w w') (hs : ¬ S b) : ConstAt w' b o i c :=
 ⟨ho.cell h.c0 hs, ho.cell h.c1 hs, ho.cell h.c2 hs, ho.cell h.c3 hs, ho.cell h.c4 hs⟩
theorem Pool.only {S : Nat → Prop} {w w' : World} {v : Value} {cs : List ConstV} (h : Pool w v cs) (ho : Only S w w') (hs : ∀ k, v.ownBlock = some k → ¬ S k) : Pool w' v cs := by
 obtain ⟨ao, cap, rfl, h1, h2, h3, h4, h5⟩ := h
 refine ⟨ao, cap, rfl, h1, h2, h3, h4, fun x hx h0 => ?_⟩
 obtain ⟨b, o, rfl, h6⟩ := h5 x hx h0
 subst hx
 exact ⟨b, o, rfl, fun i hi => (h6 i hi).only ho (hs b rfl)⟩
theorem Pool.at {w : World} {ao : Option Addr} {cap : Nat} {cs : List ConstV} (h : Pool w (.slice ao cs.length cap) cs) {i : Nat} (hi : i < cs.length) : ∃ b o, ao = some ⟨b, o, none⟩ ∧ ConstAt w b o i (cs.getD i default) := by
 obtain ⟨ao', cap', e, h1, h2, h3, h4, h5⟩ := h
 injection e with e1 _ e3
 subst e1 e3
 cases ao with
 | none => have := h3 rfl; omega
 | some x =>
  obtain ⟨b, o, rfl, h6⟩ := h5 x rfl (by omega)
  exact ⟨b, o, rfl, h6 i hi⟩
theorem Pool.range {w : World} {v : Value} {cs : List ConstV} (h : Pool w v cs) {i : Nat} (hi : i < cs.length) : ConstR (cs.getD i default) := by
 obtain ⟨_, _, _, _, _, _, h4, _⟩ := h
 have e : cs.getD i default = cs[i] := by simp [List.getD, hi]
 rw [e]
 exact h4 _ (List.getElem_mem hi)
def isZ (cs : List ConstV) (i tag : Int) : Bool := decide (1 ≤ i) && (decide (i < cs.length) && decide ((cs.getD i.toNat default).tag = tag))
theorem refIs (v : Value) (cs : List ConstV) (i tag : Int) (w : World) (hp : Pool w v cs) :
  Calls Tryz.prog 57 #[v, .int .i64 i, .int .i64 tag] w fun e w' => e = .returned (.bool (isZ cs i tag)) ∧ w = w' := by
 obtain ⟨ao, cap, rfl, h1, h2, h3, h4, h5⟩ := id hp
 unfold isZ
 by_cases hi : 1 ≤ i ∧ i < cs.length
 ·obtain ⟨hi1, hi2⟩ := hi
  obtain ⟨j, rfl⟩ := Int.eq_ofNat_of_zero_le (show 0 ≤ i by omega)
  obtain ⟨b, o, rfl, hc⟩ := Pool.at hp (i := j) (by omega)
  have hr := hp.range (i := j) (by omega)
  have g0 := hc.c0
  clear h3 h4 h5 hp hc
  rw [Int.toNat_natCast]
  generalize (cs.getD j default).tag = t at *
  go_enter Tryz.func57, Tryz.ntmps57
  go_wp2
  go_ret
  refine ⟨congrArg (fun z => Ending.returned (.bool z)) ?_, rfl⟩
  rw [decide_eq_true hi1, decide_eq_true hi2]
  by_cases ht : t = tag <;> simp [ht]
 ·clear h3 h4 h5 hp
  go_enter Tryz.func57, Tryz.ntmps57
  go_wp2
  all_goals first | go_ret | skip
  all_goals try (exfalso; omega)
  all_goals refine ⟨congrArg (fun z => Ending.returned (.bool z)) ?_, rfl⟩
  all_goals by_cases h7 : 1 ≤ i <;> by_cases h8 : i < (cs.length : Int) <;> simp [h7, h8] <;> omega
theorem empty_text (x : ByteArray) : (x = ⟨#[]⟩) = (x.toList = []) := by
 apply propext
 constructor
 ·intro h; subst h; rw [ByteArray.toList_eq]
 ·intro h
  rw [ByteArray.toList_eq] at h
  cases x
  simp at h
  rw [h]
def bareZ (c : ConstV) : Bool :=
 if c.tag = 1 then decide (c.n = 0) && (decide (c.a = 0) && decide (c.b = 0))
 else if c.tag = 3 ∨ c.tag = 5 then decide (c.text = ⟨#[]⟩) && (decide (c.a = 0) && decide (c.b = 0))
 else if c.tag = 7 then decide (c.text = ⟨#[]⟩) && (decide (c.n = 0) && decide (c.b = 0))
 else decide (c.text = ⟨#[]⟩) && decide (c.n = 0)
theorem refBare (c : ConstV) (w : World) :
  Calls Tryz.prog 141 #[.agg #[.int .i64 c.tag, .string c.text, .int .i64 c.n, .int .i64 c.a, .int .i64 c.b]] w fun e w' => e = .returned (.bool (bareZ c)) ∧ Only (fun _ => False) w w' := by
 obtain ⟨t, x, n, a, b⟩ := c
 unfold bareZ
 simp only
 go_enter Tryz.func141, Tryz.ntmps141
 go_wp2
 all_goals first | go_ret | skip
 all_goals refine ⟨congrArg (fun z => Ending.returned (.bool z)) ?_, (Only.refl _ _).alloc _⟩
 all_goals try simp only [empty_text]
 all_goals first | (simp_all; done) | (rw [Bool.eq_iff_iff]; simp_all; done)
abbrev noT : ByteArray := ⟨#[]⟩
def textZ (cs : List ConstV) (i : Int) : ByteArray × Bool := if isZ cs i 1 = true then ((cs.getD i.toNat default).text, true) else (noT, false)
def classZ (cs : List ConstV) (i : Int) : ByteArray × Bool := if isZ cs i 7 = true then textZ cs (cs.getD i.toNat default).a else (noT, false)
def refZ (cs : List ConstV) (i : Int) : ByteArray × ByteArray × ByteArray × Bool :=
 if isZ cs i 9 = false ∧ isZ cs i 10 = false then (noT, noT, noT, false)
 else if (classZ cs (cs.getD i.toNat default).a).2 = false ∨ isZ cs (cs.getD i.toNat default).b 12 = false then (noT, noT, noT, false)
 else if (textZ cs (cs.getD (cs.getD i.toNat default).b.toNat default).a).2 = false ∨ (textZ cs (cs.getD (cs.getD i.toNat default).b.toNat default).b).2 = false then (noT, noT, noT, false)
 else ((classZ cs (cs.getD i.toNat default).a).1, (textZ cs (cs.getD (cs.getD i.toNat default).b.toNat default).a).1, (textZ cs (cs.getD (cs.getD i.toNat default).b.toNat default).b).1, true)
theorem isZ_lt {cs : List ConstV} {i tag : Int} (h : isZ cs i tag = true) : ∃ j : Nat, i = (j : Int) ∧ 1 ≤ j ∧ j < cs.length ∧ (cs.getD j default).tag = tag := by
 unfold isZ at h
 simp only [Bool.and_eq_true, decide_eq_true_eq] at h
 obtain ⟨h1, h2, h3⟩ := h
 refine ⟨i.toNat, by omega, by omega, by omega, h3⟩
end Go.Proofs.YtinbelghhfodiaaGreatDoor
