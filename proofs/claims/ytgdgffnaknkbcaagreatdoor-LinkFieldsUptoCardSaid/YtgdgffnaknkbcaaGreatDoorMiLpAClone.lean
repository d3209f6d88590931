import Derived.Test.YtgdgffnaknkbcaaGreatDoorMiLnkUKndO
import Derived.Test.YtgdgffnaknkbcaaGreatDoorRows
import Derived.Test.YtgdgffnaknkbcaaGreatDoorMiSepTxtP
import Derived.Deep.QuietTactic
import Derived.BigQuiet
import Derived.Laws.BitsAllLaws
import Derived.Test.YtgdgffnaknkbcaaGreatDoorMiMemPolV
namespace Go.Proofs.YtgdgffnaknkbcaaGreatDoor
open Go.RowKit Go.Maps
set_option linter.unusedVariables false
set_option linter.unusedSimpArgs false
structure MemAt (w : World) (b o i : Nat) (m : MethN) (s : Int) : Prop where
 c0 : w.cell? ⟨b, o + i * 4, none⟩ = some (.string m.name)
 c1 : w.cell? ⟨b, o + i * 4 + 1, none⟩ = some (.string m.desc)
 c2 : w.cell? ⟨b, o + i * 4 + 2, none⟩ = some (.int .i64 m.flags)
 c3 : w.cell? ⟨b, o + i * 4 + 3, none⟩ = some (.int .i64 s)
theorem MemAt.only {S : Nat → Prop} {w w' : World} {b o i : Nat} {m : MethN} {s : Int} (h : MemAt w b o i m s) (ho : Only S w w') (hb : ¬ S b) : MemAt w' b o i m s := ⟨ho.cell h.c0 hb, ho.cell h.c1 hb, ho.cell h.c2 hb, ho.cell h.c3 hb⟩
theorem MemAt.lt {w : World} {b o i : Nat} {m : MethN} {s : Int} (h : MemAt w b o i m s) : b < w.heap.size := World.block_lt_of_cell? w _ h.c0
def MemG (G : Nat → Prop) (w : World) (v : Value) (ms : List MethN) : Prop := Sl v ms.length (fun b o i => MemAt w b o i (ms.getD i default) 0 ∧ ¬ G b)
def MemS (w : World) (v : Value) (ms : List MethN) (sl : Nat → Int) : Prop := Sl v ms.length (fun b o i => MemAt w b o i (ms.getD i default) (sl i))
def FldS (w : World) (v : Value) (ms : List MethN) (sl : Nat → Int) : Prop := Sl v ms.length (fun b o i => MemAt w b o i (ms.getD i default) (sl i) ∧ w.frozen? ⟨b, o + i * 4 + 3, none⟩ = false)
theorem MemG.mem {G : Nat → Prop} {w : World} {v : Value} {ms : List MethN} (h : MemG G w v ms) : MemS w v ms (fun _ => 0) := h.imp (fun _ _ _ _ _ h => h.1)
theorem FldS.mem {w : World} {v : Value} {ms : List MethN} {sl : Nat → Int} (h : FldS w v ms sl) : MemS w v ms sl := h.imp (fun _ _ _ _ _ h => h.1)
theorem MemS.only {w w' : World} {v : Value} {ms : List MethN} {sl : Nat → Int} (h : MemS w v ms sl) (ho : Only (fun _ => False) w w') : MemS w' v ms sl := h.imp (fun _ _ _ _ _ h => h.only ho (fun h => h))
theorem MemG.only {G S : Nat → Prop} {w w' : World} {v : Value} {ms : List MethN} (h : MemG G w v ms) (ho : Only S w w') (hs : ∀ k, S k → G k) : MemG G w' v ms := h.imp (fun _ _ _ _ _ h => ⟨h.1.only ho (fun hk => h.2 (hs _ hk)), h.2⟩)
theorem MemG.mono {G G' : Nat → Prop} {w : World} {v : Value} {ms : List MethN} (h : MemG G w v ms) (hg : ∀ k, k < w.heap.size → G' k → G k) : MemG G' w v ms := h.imp (fun _ _ _ _ _ h => ⟨h.1, fun hk => h.2 (hg _ h.1.lt hk)⟩)
theorem frozen_only {S : Nat → Prop} {w w' : World} (ho : Only S w w') {b i : Nat} (hl : b < w.heap.size) (hb : ¬ S b) (h : w.frozen? ⟨b, i, none⟩ = false) : w'.frozen? ⟨b, i, none⟩ = false := by
 have e := ho.block b hl hb
 unfold World.frozen? at h ⊢
 simp only at h ⊢
 rw [e]
 exact h
theorem FldS.only {S : Nat → Prop} {w w' : World} {v : Value} {ms : List MethN} {sl : Nat → Int} (h : FldS w v ms sl) (ho : Only S w w') (hs : ∀ k, v.ownBlock = some k → ¬ S k) : FldS w' v ms sl :=
 h.imp (fun b _ _ hb _ h => ⟨h.1.only ho (hs _ hb), frozen_only ho h.1.lt (hs _ hb) h.2⟩)
theorem FldS.nil (w : World) (sl : Nat → Int) : FldS w (.slice none 0 0) [] sl := Sl.nil _
def BytesG (G : Nat → Prop) (w : World) (v : Value) (zs : List Int) : Prop := Bytes w v zs ∧ ∀ k, v.ownBlock = some k → zs ≠ [] → ¬ G k
theorem BytesG.only {G S : Nat → Prop} {w w' : World} {v : Value} {zs : List Int} (h : BytesG G w v zs) (ho : Only S w w') (hs : ∀ k, S k → G k) : BytesG G w' v zs := ⟨h.1.only ho (fun k hk hz hS => h.2 k hk hz (hs _ hS)), h.2⟩
theorem BytesG.mono {G G' : Nat → Prop} {w : World} {v : Value} {zs : List Int} (h : BytesG G w v zs) (hg : ∀ k, k < w.heap.size → G' k → G k) : BytesG G' w v zs := ⟨h.1, fun k hk hz hG => h.2 k hk hz (hg _ (h.1.lt k hk hz) hG)⟩
def FieldsG (G : Nat → Prop) (w : World) (v : Value) (fs : List FieldV) : Prop := Sl v fs.length (fun b o i => FieldAt w b o i (fs.getD i default) ∧ ¬ G b) ∧ ∀ f ∈ fs, FieldR f
def TrapsG (G : Nat → Prop) (w : World) (v : Value) (fs : List TrapV) : Prop := Sl v fs.length (fun b o i => TrapAt w b o i (fs.getD i default) ∧ ¬ G b) ∧ ∀ f ∈ fs, TrapR f
def InsideG (G : Nat → Prop) (w : World) (m : MethodV) (vc vt vm : Value) : Prop := BytesG G w vc m.code ∧ TrapsG G w vt m.traps ∧ BytesG G w vm m.maps
def MethodsG (G : Nat → Prop) (w : World) (v : Value) (ms : List MethodV) : Prop :=
 ∃ f : Nat → Value × Value × Value, Sl v ms.length (fun b o i => MethodAt w b o i (ms.getD i default) (f i).1 (f i).2.1 (f i).2.2 ∧ ¬ G b) ∧ (∀ i, i < ms.length → InsideG G w (ms.getD i default) (f i).1 (f i).2.1 (f i).2.2) ∧ ∀ m ∈ ms, MethodR m
structure ClassG (G : Nat → Prop) (w : World) (vp vf vm : Value) (c : ClassV) : Prop where
 pool : Pool w vp c.pool
 off : ∀ k, vp.ownBlock = some k → k < w.heap.size ∧ ¬ G k
 fields : FieldsG G w vf c.fields
 meths : MethodsG G w vm c.methods
 this : I64 c.this
 super : I64 c.super
theorem FieldsG.plain {G : Nat → Prop} {w : World} {v : Value} {fs : List FieldV} (h : FieldsG G w v fs) : Fields w v fs := ⟨h.1.imp (fun _ _ _ _ _ h => h.1), h.2⟩
theorem TrapsG.plain {G : Nat → Prop} {w : World} {v : Value} {fs : List TrapV} (h : TrapsG G w v fs) : Traps w v fs := ⟨h.1.imp (fun _ _ _ _ _ h => h.1), h.2⟩
theorem InsideG.plain {G : Nat → Prop} {w : World} {m : MethodV} {vc vt vm : Value} (h : InsideG G w m vc vt vm) : Inside w m vc vt vm := ⟨h.1.1, h.2.1.plain, h.2.2.1⟩
theorem MethodsG.plain {G : Nat → Prop} {w : World} {v : Value} {ms : List MethodV} (h : MethodsG G w v ms) : Methods w v ms := by
 obtain ⟨f, h1, h2, h3⟩ := h
 exact ⟨f, h1.imp (fun _ _ _ _ _ h => h.1), fun i hi => (h2 i hi).plain, h3⟩
theorem ClassG.plain {G : Nat → Prop} {w : World} {vp vf vm : Value} {c : ClassV} (h : ClassG G w vp vf vm c) : ClassM w vp vf vm c := ⟨h.pool, h.fields.plain, h.meths.plain, h.this, h.super⟩
section
variable {G S : Nat → Prop} {w w' : World}
theorem FieldAt.onlyS {b o i : Nat} {f : FieldV} (h : FieldAt w b o i f) (ho : Only S w w') (hb : ¬ S b) : FieldAt w' b o i f := ⟨ho.cell h.c0 hb, ho.cell h.c1 hb, ho.cell h.c2 hb⟩
theorem TrapAt.onlyS {b o i : Nat} {f : TrapV} (h : TrapAt w b o i f) (ho : Only S w w') (hb : ¬ S b) : TrapAt w' b o i f := ⟨ho.cell h.c0 hb, ho.cell h.c1 hb, ho.cell h.c2 hb, ho.cell h.c3 hb⟩
theorem MethodAt.onlyS {b o i : Nat} {m : MethodV} {vc vt vm : Value} (h : MethodAt w b o i m vc vt vm) (ho : Only S w w') (hb : ¬ S b) : MethodAt w' b o i m vc vt vm :=
 ⟨ho.cell h.c0 hb, ho.cell h.c1 hb, ho.cell h.c2 hb, ho.cell h.c3 hb, ho.cell h.c4 hb, ho.cell h.c5 hb, ho.cell h.c6 hb, ho.cell h.c7 hb⟩
variable (ho : Only S w w') (hs : ∀ k, S k → G k)
include ho hs
theorem FieldsG.only {v : Value} {fs : List FieldV} (h : FieldsG G w v fs) : FieldsG G w' v fs := ⟨h.1.imp (fun _ _ _ _ _ h => ⟨h.1.onlyS ho (fun hk => h.2 (hs _ hk)), h.2⟩), h.2⟩
theorem TrapsG.only {v : Value} {fs : List TrapV} (h : TrapsG G w v fs) : TrapsG G w' v fs := ⟨h.1.imp (fun _ _ _ _ _ h => ⟨h.1.onlyS ho (fun hk => h.2 (hs _ hk)), h.2⟩), h.2⟩
theorem InsideG.only {m : MethodV} {vc vt vm : Value} (h : InsideG G w m vc vt vm) : InsideG G w' m vc vt vm := ⟨h.1.only ho hs, h.2.1.only ho hs, h.2.2.only ho hs⟩
theorem MethodsG.only {v : Value} {ms : List MethodV} (h : MethodsG G w v ms) : MethodsG G w' v ms := by
 obtain ⟨f, h1, h2, h3⟩ := h
 exact ⟨f, h1.imp (fun _ _ _ _ _ h => ⟨h.1.onlyS ho (fun hk => h.2 (hs _ hk)), h.2⟩), fun i hi => (h2 i hi).only ho hs, h3⟩
theorem ClassG.only {vp vf vm : Value} {c : ClassV} (h : ClassG G w vp vf vm c) : ClassG G w' vp vf vm c :=
 ⟨h.pool.only ho (fun k hk hS => (h.off k hk).2 (hs _ hS)), fun k hk => ⟨Nat.lt_of_lt_of_le (h.off k hk).1 ho.size, (h.off k hk).2⟩, h.fields.only ho hs, h.meths.only ho hs, h.this, h.super⟩
end
section
variable {G G' : Nat → Prop} {w : World} (hg : ∀ k, k < w.heap.size → G' k → G k)
include hg
theorem FieldsG.mono {v : Value} {fs : List FieldV} (h : FieldsG G w v fs) : FieldsG G' w v fs := ⟨h.1.imp (fun _ _ _ _ _ h => ⟨h.1, fun hk => h.2 (hg _ (World.block_lt_of_cell? w _ h.1.c0) hk)⟩), h.2⟩
theorem TrapsG.mono {v : Value} {fs : List TrapV} (h : TrapsG G w v fs) : TrapsG G' w v fs := ⟨h.1.imp (fun _ _ _ _ _ h => ⟨h.1, fun hk => h.2 (hg _ (World.block_lt_of_cell? w _ h.1.c0) hk)⟩), h.2⟩
theorem InsideG.mono {m : MethodV} {vc vt vm : Value} (h : InsideG G w m vc vt vm) : InsideG G' w m vc vt vm := ⟨h.1.mono hg, h.2.1.mono hg, h.2.2.mono hg⟩
theorem MethodsG.mono {v : Value} {ms : List MethodV} (h : MethodsG G w v ms) : MethodsG G' w v ms := by
 obtain ⟨f, h1, h2, h3⟩ := h
 exact ⟨f, h1.imp (fun _ _ _ _ _ h => ⟨h.1, fun hk => h.2 (hg _ (World.block_lt_of_cell? w _ h.1.c0) hk)⟩), fun i hi => (h2 i hi).mono hg, h3⟩
theorem ClassG.mono {vp vf vm : Value} {c : ClassV} (h : ClassG G w vp vf vm c) : ClassG G' w vp vf vm c :=
 ⟨h.pool, fun k hk => ⟨(h.off k hk).1, fun hG => (h.off k hk).2 (hg _ (h.off k hk).1 hG)⟩, h.fields.mono hg, h.meths.mono hg, h.this, h.super⟩
end
def listedO (i : Nat) (c : ClassV) (vp vf vm vof vom : Value) : Obj := .cells #[.int .i64 i, vp, .int .i64 c.this, .int .i64 c.super, vf, vm, vof, vom] 129 (0, 0)
def KnownG (G : Nat → Prop) (w : World) (i : Nat) (iv : Value) (k : KindV) (c : ClassV) (vof : Value) : Prop :=
 (i < 13 ∧ k.fields = [] ∧ vof = .slice none 0 0 ∧ ∃ vom, iv = .iface 136 (.agg #[.string k.name, .string k.super, vom]) ∧ MemG G w vom k.meths) ∨
 (13 ≤ i ∧ k = loadZ c (i - 13) ∧ ∃ lb vp vf vm vom, iv = .iface 124 (.pointer (some ⟨lb, 0, none⟩)) ∧ ¬ G lb ∧ w.heap[lb]? = some (listedO i c vp vf vm vof vom) ∧ ClassG G w vp vf vm c ∧ MemG G w vom k.meths)
theorem KnownG.only {G S : Nat → Prop} {w w' : World} {i : Nat} {iv : Value} {k : KindV} {c : ClassV} {vof : Value} (h : KnownG G w i iv k c vof) (ho : Only S w w') (hs : ∀ k, S k → G k) : KnownG G w' i iv k c vof := by
 rcases h with ⟨h1, h2, h3, vom, h4, h5⟩ | ⟨h1, h2, lb, vp, vf, vm, vom, h3, h4, h5, h6, h7⟩
 ·exact .inl ⟨h1, h2, h3, vom, h4, h5.only ho hs⟩
 ·exact .inr ⟨h1, h2, lb, vp, vf, vm, vom, h3, h4, ho.heap h5 (fun hS => h4 (hs _ hS)), h6.only ho hs, h7.only ho hs⟩
theorem KnownG.mono {G G' : Nat → Prop} {w : World} {i : Nat} {iv : Value} {k : KindV} {c : ClassV} {vof : Value} (h : KnownG G w i iv k c vof) (hg : ∀ k, k < w.heap.size → G' k → G k) : KnownG G' w i iv k c vof := by
 rcases h with ⟨h1, h2, h3, vom, h4, h5⟩ | ⟨h1, h2, lb, vp, vf, vm, vom, h3, h4, h5, h6, h7⟩
 ·exact .inl ⟨h1, h2, h3, vom, h4, h5.mono hg⟩
 ·exact .inr ⟨h1, h2, lb, vp, vf, vm, vom, h3, fun hG => h4 (hg _ (heap_lt h5) hG), h5, h6.mono hg, h7.mono hg⟩
def NamesM (w : World) (mb : Nat) (ks : List KindV) : Prop :=
 ∃ n D, n ≤ ks.length ∧ w.ownsMap Tryz.prog 9 (plainElem (H := Unit) Tryz.prog 3) mb n D ∧ IsMap D ∧
  ∀ x, Maps.has D (keyB x) = !decide (findZ ks x < 0) ∧ (¬ findZ ks x < 0 → D.atKey (keyB x) (.lit (.int .i64 0)) = .lit (.int .i64 (findZ ks x)))
theorem NamesM.only {S : Nat → Prop} {w w' : World} {mb : Nat} {ks : List KindV} (h : NamesM w mb ks) (ho : Only S w w') (hs : ¬ S mb) : NamesM w' mb ks := by
 obtain ⟨n, D, h1, ⟨es, clock, h2, h3⟩, h4⟩ := h
 exact ⟨n, D, h1, ⟨es, clock, ho.heap h2 hs, h3⟩, h4⟩
theorem NamesM.lt {w : World} {mb : Nat} {ks : List KindV} (h : NamesM w mb ks) : mb < w.heap.size := by
 obtain ⟨n, D, h1, h2, h4⟩ := h
 exact h2.lt
def progO (vl : Value) (mb : Nat) : Obj := .cells #[vl, .map (some mb)] 108 (0, 0)
def KnownL (G : Nat → Prop) (fv : Nat → Value) (w : World) (ks : List KindV) (cl : Nat → ClassV) (b o i : Nat) : Prop := ∃ iv, w.cell? ⟨b, o + i, none⟩ = some iv ∧ KnownG G w i iv (ks.getD i default) (cl i) (fv i)
structure ProgG (G : Nat → Prop) (fv : Nat → Value) (w : World) (pb : Nat) (ks : List KindV) (cl : Nat → ClassV) (sl : Nat → Nat → Int) : Prop where
 head : ∃ vl mb, w.heap[pb]? = some (progO vl mb) ∧ NamesM w mb ks ∧ Sl vl ks.length (fun b o i => KnownL G fv w ks cl b o i ∧ ¬ G b) ∧ ¬ G pb ∧ ¬ G mb
 fields : ∀ i, i < ks.length → FldS w (fv i) (ks.getD i default).fields (sl i)
 own : ∀ i k, i < ks.length → (fv i).ownBlock = some k → k < w.heap.size ∧ G k
 apart : ∀ i j k, i < ks.length → j < ks.length → (fv i).ownBlock = some k → (fv j).ownBlock = some k → i = j
theorem ProgG.only {G : Nat → Prop} {fv : Nat → Value} {w w' : World} {pb : Nat} {ks : List KindV} {cl : Nat → ClassV} {sl : Nat → Nat → Int} (h : ProgG G fv w pb ks cl sl) (ho : Only (fun _ => False) w w') : ProgG G fv w' pb ks cl sl := by
 obtain ⟨vl, mb, h1, h2, h3, h4, h5⟩ := h.head
 refine ⟨⟨vl, mb, ho.heap h1 (fun h => h), h2.only ho (fun h => h), h3.imp (fun b o i _ _ h => ?_), h4, h5⟩, fun i hi => (h.fields i hi).only ho (fun _ _ h => h), fun i k hi hk => ⟨Nat.lt_of_lt_of_le (h.own i k hi hk).1 ho.size, (h.own i k hi hk).2⟩, h.apart⟩
 obtain ⟨⟨iv, hc, hk⟩, hG⟩ := h
 exact ⟨⟨iv, ho.cell hc (fun h => h), hk.only ho (fun _ h => h.elim)⟩, hG⟩
theorem ProgG.open {G : Nat → Prop} {fv : Nat → Value} {w : World} {pb : Nat} {ks : List KindV} {cl : Nat → ClassV} {sl : Nat → Nat → Int} (h : ProgG G fv w pb ks cl sl) (hn : 0 < ks.length) :
  ∃ b o cap mb, w.cell? ⟨pb, 0, none⟩ = some (.slice (some ⟨b, o, none⟩) ks.length cap) ∧ w.cell? ⟨pb, 1, none⟩ = some (.map (some mb)) ∧ ks.length ≤ cap ∧ cap ≤ 9223372036854775807 ∧ NamesM w mb ks ∧ ∀ i, i < ks.length → KnownL G fv w ks cl b o i := by
 obtain ⟨vl, mb, h1, h2, ⟨ao, cap, rfl, e1, e2, e3, e4⟩, h4, h5⟩ := h.head
 cases ao with
 | none => have := e3 rfl; omega
 | some x =>
  obtain ⟨b, o, rfl, h6⟩ := e4 x rfl hn
  exact ⟨b, o, cap, mb, by rw [cell_blk h1]; rfl, by rw [cell_blk h1]; rfl, e1, e2, h2, fun i hi => (h6 i hi).1⟩
end Go.Proofs.YtgdgffnaknkbcaaGreatDoor
namespace Go.Proofs.YtgdgffnaknkbcaaGreatDoor
open Go.RowKit
def RdCells (w : World) (rb : Nat) (ao : Option Addr) (n cap : Nat) (at_ : Nat) : Prop :=
 w.cell? ⟨rb, 0, none⟩ = some (.slice ao n cap) ∧ w.cell? ⟨rb, 1, none⟩ = some (.int .i64 at_) ∧ w.cell? ⟨rb, 2, none⟩ = some (.bool true)
def rdErr0 (n left : Int) : Int := if n < 1 ∨ 8 < n then 1 else if left < n then 3 else 0
def rdErr1 (n left : Int) : Int := if n < 0 then 1 else if left < n then 3 else 0
def valB (zs : List Int) : Int := zs.foldl (fun x c => x * 256 + c) 0
theorem valB_snoc (zs : List Int) (c : Int) : valB (zs ++ [c]) = valB zs * 256 + c := by simp [valB]
theorem valB_lt : ∀ (n : Nat) (zs : List Int), zs.length = n → Bytish zs → 0 ≤ valB zs ∧ valB zs < 256 ^ n := by
 intro n
 induction n with
 | zero => intro zs h _; rw [List.eq_nil_of_length_eq_zero h]; simp [valB]
 | succ n ih =>
  intro zs h hz
  have hne : zs ≠ [] := by intro e; subst e; simp at h
  have he : zs = zs.dropLast ++ [zs.getLast hne] := (List.dropLast_concat_getLast hne).symm
  have h1 := ih zs.dropLast (by simp; omega) (fun z hz' => hz z ((List.dropLast_sublist zs).subset hz'))
  have h2 := hz (zs.getLast hne) (List.getLast_mem hne)
  unfold IsByte at h2
  rw [he, valB_snoc]
  have : (256 : Int) ^ (n + 1) = 256 ^ n * 256 := by rw [Int.pow_succ]
  rw [this]
  omega
def cutUv (n : Nat) (x : Int) : Int := IntKind.u64.wrap (x * 2 ^ (8 * (8 - n))) / 2 ^ (8 * (8 - n))
def cutIv (n : Nat) (x : Int) : Int := wrap64 (x * 2 ^ (8 * (8 - n))) / 2 ^ (8 * (8 - n))
def sgn (n : Nat) (v : Int) : Int := if 2 ^ (8 * n - 1) ≤ v then v - 2 ^ (8 * n) else v
def dig (x : Int) (i : Nat) : Int := IntKind.u8.wrap (x / 2 ^ (8 * i))
def digsTo (n : Nat) (x : Int) (j : Nat) : List Int := (List.range j).map (fun t => dig x (n - 1 - t))
def digs (n : Nat) (x : Int) : List Int := digsTo n x n
def Moved (rb : Nat) (k : Int) (w w' : World) : Prop := ∃ nq, w' = (w.setCell ⟨rb, 1, none⟩ (.int .i64 k)).drewN nq
theorem Moved.after {rb : Nat} {k : Int} {w w' w'' : World} (h : Drawn w w') (h' : Moved rb k w' w'') : Moved rb k w w'' := by
 obtain ⟨a, rfl⟩ := h; obtain ⟨b, rfl⟩ := h'; exact ⟨a + b, by simp [World.drewN, World.setCell, Nat.add_assoc]⟩
theorem Moved.frozen {rb : Nat} {k : Int} {w w' : World} (h : Moved rb k w w') (a : Addr) : w'.frozen? a = w.frozen? a := by
 obtain ⟨n, rfl⟩ := h
 show (w.setCell _ _).frozen? _ = _
 simp
theorem Moved.only {rb : Nat} {k : Int} {w w' : World} (h : Moved rb k w w') : Only (fun b => b = rb) w w' := by
 obtain ⟨n, rfl⟩ := h
 exact (Only.setCell (S := fun b => b = rb) (Only.refl _ _) (fun _ => rfl) _).drewN n
end Go.Proofs.YtgdgffnaknkbcaaGreatDoor
