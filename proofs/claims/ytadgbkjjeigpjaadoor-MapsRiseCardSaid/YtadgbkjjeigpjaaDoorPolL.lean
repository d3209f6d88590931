/- An argument that is a list of constants, opened. No condition but the form's own reach. -/
import Derived.Test.YtadgbkjjeigpjaaDoorArg
import Derived.Test.YtadgbkjjeigpjaaDoorPolA
namespace Go.Proofs.YtadgbkjjeigpjaaDoor
open Go.ChangeShapes Go.WideShapes Go.ChangeAt Go.RowKit Go.Deep
set_option linter.unusedVariables false
set_option linter.unusedSimpArgs false

theorem cells_const : Tryd.prog.cellsOf 104 = 5 := by kernel_rfl
theorem bytes_const : Tryd.prog.bytesOf 104 = 48 := by kernel_rfl
theorem bulk_mem {H : Type} : ∀ {l : List (DataW H)} {d : DataW H}, d ∈ l → Rows.uptoBulk d ≤ Rows.uptoBulkAll l
  | [], d, h => by cases h
  | a :: r, d, h => by
    simp only [Rows.uptoBulkAll]
    rcases List.mem_cons.1 h with rfl | h
    · omega
    · have := bulk_mem h; omega

section
variable {H : Type} {enc : TypeId × Value → H} {w : World} {held : Bool}
/-- One field's reading, and its datum among the parts. -/
theorem const_field {fuel : Nat} {cs : List Value} {x : DataW H × List MemPlace} (h : DataW.trod enc Tryd.prog w 0 (fun _ => true) held fuel 104 cs = some x) (hcs : cs.length = 5) (hL : Light Tryd.prog 104 x.1) {fs : Array Field} (hf : Tryd.prog.underlying 104 = some (.struct fs)) (hone : oneCellFields Tryd.prog fs = true) (hfs : fs.size = 5) {j : Nat} {f : Field} (hj : fs[j]? = some f) :
    ∃ v n y, cs[j]? = some v ∧ DataW.trod enc Tryd.prog w 0 (fun _ => true) held n f.type [v] = some y ∧ Light Tryd.prog f.type y.1 ∧ Rows.uptoBulk y.1 ≤ Rows.uptoBulk x.1 := by
  obtain ⟨xs, n, _, rfl, _, hxl, hg⟩ := DataW.trod_struct hf h
  obtain ⟨ho, hk⟩ := hone_of hone j f hj
  have hjs : j < fs.size := (Array.getElem?_eq_some_iff.1 hj).1
  have hjc : j < cs.length := by omega
  have h1 := hg j f hj
  rw [ho, hk, List.drop_eq_getElem_cons hjc] at h1
  have hx : xs[j]? = some (xs[j]'(by omega)) := List.getElem?_eq_getElem (by omega)
  refine ⟨cs[j], n, xs[j]'(by omega), List.getElem?_eq_getElem hjc, h1.trans hx, light_field hf hL hj (by simp [hx]), ?_⟩
  simp only [Rows.uptoBulk]
  have := bulk_mem (l := xs.map (·.1)) (d := (xs[j]'(by omega)).1) (List.mem_map.2 ⟨_, List.getElem_mem _, rfl⟩)
  omega

set_option maxRecDepth 100000 in
/-- One constant: its five cells, its ranges; how long its text is. -/
theorem open_const {fuel : Nat} {cs : List Value} {x : DataW H × List MemPlace} (h : DataW.trod enc Tryd.prog w 0 (fun _ => true) held fuel 104 cs = some x) (hcs : cs.length = 5) (hL : Light Tryd.prog 104 x.1) :
    ∃ c : ConstV, cs = [.int .i64 c.tag, .string c.text, .int .i64 c.n, .int .i64 c.a, .int .i64 c.b] ∧ ConstR c ∧ c.text.size ≤ Rows.uptoBulk x.1 := by
  have F := fun j f hj => const_field (j := j) (f := f) h hcs hL Tryd.underlying104 (by kernel_rfl) (by kernel_rfl) hj
  obtain ⟨v0, n0, y0, d0, t0, _, _⟩ := F 0 _ rfl
  obtain ⟨v1, n1, y1, d1, t1, l1, b1⟩ := F 1 _ rfl
  obtain ⟨v2, n2, y2, d2, t2, _, _⟩ := F 2 _ rfl
  obtain ⟨v3, n3, y3, d3, t3, _, _⟩ := F 3 _ rfl
  obtain ⟨v4, n4, y4, d4, t4, _, _⟩ := F 4 _ rfl
  obtain ⟨k0, e0, _, w0⟩ := DataW.trod_int Tryd.underlying3 t0
  obtain ⟨s, e1, ey, w1⟩ := DataW.trod_string Tryd.underlying9 t1
  obtain ⟨k2, e2, _, w2⟩ := DataW.trod_int Tryd.underlying2 t2
  obtain ⟨k3, e3, _, w3⟩ := DataW.trod_int Tryd.underlying3 t3
  obtain ⟨k4, e4, _, w4⟩ := DataW.trod_int Tryd.underlying3 t4
  simp only [List.cons.injEq, and_true] at e0 e1 e2 e3 e4
  subst e0 e1 e2 e3 e4 ey
  have hsz : s.size ≤ 140737488351232 := by
    have := l1 s.data.toList.length (by simp [DataW.weights])
    simpa [reachBytes] using this
  have hbk : s.size ≤ Rows.uptoBulk x.1 := by
    simp only [Rows.uptoBulk] at b1
    have : s.data.toList.length = s.size := by simp
    omega
  refine ⟨⟨k0, s, k2, k3, k4⟩, ?_, ⟨bounds_i64 w0, bounds_i64 w2, bounds_i64 w3, bounds_i64 w4, hsz⟩, hbk⟩
  match cs, hcs with
  | [c0, c1, c2, c3, c4], _ =>
    simp only [List.getElem?_cons_zero, List.getElem?_cons_succ, Option.some.injEq] at d0 d1 d2 d3 d4
    rw [d0, d1, d2, d3, d4]

set_option maxRecDepth 100000 in
theorem open_pool {fuel : Nat} {cs : List Value} {x : DataW H × List MemPlace} (h : DataW.trod enc Tryd.prog w 0 (fun _ => true) held fuel 22 cs = some x) (hL : Light Tryd.prog 22 x.1) :
    ∃ v ks, cs = [v] ∧ Pool w v ks ∧ (∀ c ∈ ks, c.text.size ≤ Rows.uptoBulk x.1) ∧ ks.length * 48 ≤ 140737488351232 := by
  rcases Go.Deep.open_slice Tryd.underlying22 h with ⟨rfl, _⟩ | ⟨a, len, cap, m, n, D, Pl, rfl, _, hl, hm, hmm, rfl, hi⟩
  · exact ⟨_, [], rfl, ⟨none, 0, rfl, Nat.le_refl _, by omega, fun _ => rfl, (fun c hc => by cases hc), fun x hx _ => by cases hx⟩, (fun c hc => by cases hc), by simp⟩
  · simp only [if_true] at hmm
    subst hmm
    have hall : ∀ i, i < len → ∃ c : ConstV, (w.cells? 0 (a.add (i * 5)) 5 = some [.int .i64 c.tag, .string c.text, .int .i64 c.n, .int .i64 c.a, .int .i64 c.b]) ∧ ConstR c ∧ c.text.size ≤ Rows.uptoBulk (D i) := by
      intro i hil
      obtain ⟨cs', hcs', htr⟩ := hi i (by omega)
      rw [cells_const] at hcs'
      obtain ⟨_, hlen, _⟩ := World.cells?_some hcs'
      have hLi : Light Tryd.prog 104 (D i) := light_elem Tryd.underlying22 hL (List.mem_map.2 ⟨i, List.mem_range.2 hil, rfl⟩)
      obtain ⟨c, rfl, hr, hb⟩ := open_const htr hlen hLi
      exact ⟨c, hcs', hr, hb⟩
    obtain ⟨f, hf⟩ := choose_lt hall
    have hget : ∀ i, i < len → ((List.range len).map f).getD i default = f i := fun i hi => by simp [List.getD, hi]
    refine ⟨_, (List.range len).map f, rfl, ⟨some a, _, by rw [List.length_map, List.length_range], by rw [List.length_map, List.length_range]; exact hl, by unfold maxLen at hm; omega, (fun e => by cases e), ?_, ?_⟩, ?_, ?_⟩
    · intro c hc
      obtain ⟨i, hi2, rfl⟩ := List.mem_map.1 hc
      exact (hf i (List.mem_range.1 hi2)).2.1
    · intro x hx h0
      cases hx
      rw [List.length_map, List.length_range] at h0
      have hcell : ∀ i, i < len → ∀ d u, ([.int .i64 (f i).tag, .string (f i).text, .int .i64 (f i).n, .int .i64 (f i).a, .int .i64 (f i).b] : List Value)[d]? = some u → w.cell? (a.add (i * 5 + d)) = some u := by
        intro i hi d u hu
        obtain ⟨_, _, hat⟩ := World.cells?_some (hf i hi).1
        have hd : d < 5 := by
          have := (List.getElem?_eq_some_iff.1 hu).1
          simpa using this
        have := hat d hd
        rw [Go.Deep.add_add] at this
        rw [this, hu]
      have hp := plain_of_cell (x := a) (by have := hcell 0 h0 0 _ rfl; simpa using this)
      refine ⟨a.block, a.off, hp, fun i hi => ?_⟩
      rw [List.length_map, List.length_range] at hi
      rw [hget i hi]
      have hc : ∀ d u, ([.int .i64 (f i).tag, .string (f i).text, .int .i64 (f i).n, .int .i64 (f i).a, .int .i64 (f i).b] : List Value)[d]? = some u → w.cell? ⟨a.block, a.off + i * 5 + d, none⟩ = some u := fun d u hu => by
        have := hcell i hi d u hu
        rw [hp, add_lit] at this
        rw [Nat.add_assoc]
        exact this
      exact ⟨hc 0 _ rfl, hc 1 _ rfl, hc 2 _ rfl, hc 3 _ rfl, hc 4 _ rfl⟩
    · intro c hc
      obtain ⟨i, hi2, rfl⟩ := List.mem_map.1 hc
      have h1 := (hf i (List.mem_range.1 hi2)).2.2
      have h2 := bulk_mem (l := (List.range len).map D) (d := D i) (List.mem_map.2 ⟨i, hi2, rfl⟩)
      simp only [Rows.uptoBulk]
      omega
    · have h1 := light_len Tryd.underlying22 hL
      rw [bytes_const] at h1
      simp only [List.length_map, List.length_range, reachBytes] at h1 ⊢
      omega
end

set_option maxRecDepth 100000 in
theorem arg_pool {H : Type} {enc : TypeId × Value → H} {W : World} {base : Nat} {v : Value} {d : DataW H} {p : List MemPlace} (hv : Value.okWide Tryd.prog W .any base 22 v) (h : DataW.Trod enc Tryd.prog W 0 (fun _ => true) true 22 v d p)
    (hL : Light Tryd.prog 22 d) : ∃ ks, Pool W v ks ∧ (∀ c ∈ ks, c.text.size ≤ Rows.uptoBulk d) ∧ ks.length * 48 ≤ 140737488351232 := by
  obtain ⟨a, l, c, rfl⟩ := okWide_slice Tryd.underlying22 hv
  obtain ⟨fuel, hf⟩ := h
  obtain ⟨v', ks, e, hs, hb⟩ := open_pool hf hL
  simp [Value.cells] at e
  subst e
  exact ⟨ks, hs, hb⟩
end Go.Proofs.YtadgbkjjeigpjaaDoor
