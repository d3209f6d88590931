/- The program's Decode of a class file: what the document says. No condition but the form's own reach. -/
import Derived.Test.YtodhdiccfobcfaaGreatDoorClsN
import Derived.Test.YtodhdiccfobcfaaGreatDoorGClsF
import Derived.Test.YtodhdiccfobcfaaGreatDoorGClsG
namespace Go.Proofs.YtodhdiccfobcfaaGreatDoor
open Go.RowKit
set_option linter.unusedVariables false
set_option linter.unusedSimpArgs false

theorem MIn.inside {w : World} {B : Nat} {m : MethodV} {vc vt vm : Value} (h : MIn w B m vc vt vm) : Inside w m vc vt vm := ⟨h.code.bytes h.byt, RowG.traps h.traps h.tr, h.maps.bytes h.byt2⟩
/-- A class that was read: its lists are its own. -/
structure DM (w : World) (N : Nat) (vp vf vm : Value) (c : ClassV) : Prop where
  pool : Pool w vp c.pool
  fields : RowG 59 3 cellsF w N vf c.fields
  fr : ∀ f ∈ c.fields, FieldR f
  methods : ∃ xs, c.methods = xs.map (·.1) ∧ RowG 62 8 cellsM w N vm xs ∧ ∀ x ∈ xs, MethodR x.1 ∧ MIn w N x.1 x.2.1 x.2.2.1 x.2.2.2
  r : I64 c.this ∧ I64 c.super
theorem DM.keep {S : Nat → Prop} {w w' : World} {N : Nat} {vp vf vm : Value} {c : ClassV} (h : DM w N vp vf vm c) (ho : Only S w w') (hS : ∀ j, S j → j < N) (hp : ∀ j, vp.ownBlock = some j → ¬ S j) : DM w' N vp vf vm c := by
  obtain ⟨xs, h1, h2, h3⟩ := h.methods
  exact ⟨Pool.only h.pool ho hp, h.fields.keep ho hS, h.fr, ⟨xs, h1, h2.keep ho hS, fun x hx => ⟨(h3 x hx).1, (h3 x hx).2.keep ho hS⟩⟩, h.r⟩
theorem DM.cls {w : World} {N : Nat} {vp vf vm : Value} {c : ClassV} (h : DM w N vp vf vm c) : ClassM w vp vf vm c := by
  obtain ⟨xs, h1, h2, h3⟩ := h.methods
  refine ⟨h.pool, RowG.fields h.fields h.fr, ?_, h.r⟩
  rw [h1]
  exact RowG.methods h2 (fun x hx => ⟨(h3 x hx).1, (h3 x hx).2.inside⟩)
theorem end_no {cs : List ConstV} {zs : List Int} {K k : Nat} {c : ClassV} {x : Int} (h : bodyP cs zs K = bindP (fixedP 2 0) (fun _ => retP c) zs k) (hl : lastP zs k = .error x) : endP zs (bodyP cs zs K) = .error x := by
  rw [h]
  unfold lastP bindP at hl
  unfold bindP retP
  cases hf : fixedP 2 0 zs k with
  | error e => rw [hf] at hl; simp only at hl ⊢; injection hl with hl; subst hl; rfl
  | ok y =>
    obtain ⟨u, k5⟩ := y
    rw [hf] at hl
    simp only at hl ⊢
    split at hl
    · cases hl
    · injection hl with hl
      subst hl
      unfold endP
      simp only
      rw [if_neg (by assumption)]
theorem end_yes {cs : List ConstV} {zs : List Int} {K k k5 : Nat} {c : ClassV} {u : Unit} (h : bodyP cs zs K = bindP (fixedP 2 0) (fun _ => retP c) zs k) (hl : lastP zs k = .ok (u, k5)) : endP zs (bodyP cs zs K) = if clsZ c = 0 then .ok c else .error (clsZ c) := by
  rw [h]
  unfold lastP bindP at hl
  unfold bindP retP
  cases hf : fixedP 2 0 zs k with
  | error e => rw [hf] at hl; cases hl
  | ok y =>
    obtain ⟨u', k6⟩ := y
    rw [hf] at hl
    simp only at hl ⊢
    split at hl
    · unfold endP
      simp only
      rw [if_pos (by assumption)]
    · cases hl
/-- What reading all of it leaves. -/
def AllTo (w0 : World) (b rb : Nat) (wv : Value) (zs : List Int) (e : Ending) (w' : World) : Prop :=
  ∃ r, DecC zs r ∧ Only (fun j => j = rb ∨ j = b) w0 w' ∧
    ((∃ c vp vf vm, r = .ok c ∧ e = .returned (.tuple #[]) ∧ w'.heap[b]? = some (.cells #[.pointer (some ⟨rb, 0, none⟩), wv, vp, .int .i64 c.this, .int .i64 c.super, vf, vm] 74 (0, 0)) ∧ DM w' w0.heap.size vp vf vm c ∧ clsZ c = 0 ∧ ∀ j, vp.ownBlock = some j → ¬ (j = rb ∨ j = b)) ∨
     (∃ x, r = .error x ∧ e = pan x))
theorem AllTo.no {w0 : World} {b rb : Nat} {wv : Value} {zs : List Int} {w' : World} {x : Int} (h : DecC zs (.error x)) (ho : Only (fun j => j = rb ∨ j = b) w0 w') : AllTo w0 b rb wv zs (pan x) w' := ⟨_, h, ho, .inr ⟨x, rfl, rfl⟩⟩
set_option maxHeartbeats 8000000 in
set_option maxRecDepth 100000 in
theorem readAll (b rb : Nat) (sv : Value) (zs : List Int) (w : World) (wv : Value)
    (h : KS w w b rb sv zs 0 (.slice none 0 0) [] #[.pointer (some ⟨rb, 0, none⟩), wv, .slice none 0 0, .int .i64 0, .int .i64 0, .slice none 0 0, .slice none 0 0]) (ne : Ap2 b rb sv (.slice none 0 0) w.heap.size)
    (hw : Bytes w wv zs) (hwb : ∀ j, wv.ownBlock = some j → zs ≠ [] → ¬ j = rb) (hT : Tabs w) (hg : ErrV w) (h3 : 3 ≤ rb ∧ 3 ≤ b) :
    Calls Tryz.prog 30 #[.pointer (some ⟨b, 0, none⟩)] w (AllTo w b rb wv zs) := by
  have hmf : ∀ (fn : Fn) (first cap : Array Value) (w : World), (Instr.makeFunc fn first cap).run Tryz.prog w = .ok (.func fn first cap) w := fun _ _ _ _ => rfl
  have hfb := heap_alloc_new w (.cells #[.func (.func 57) #[.pointer (some ⟨b, 0, none⟩)] #[], .func (.func 58) #[.pointer (some ⟨b, 0, none⟩)] #[], .func (.func 59) #[.pointer (some ⟨b, 0, none⟩)] #[], .func (.func 60) #[.pointer (some ⟨b, 0, none⟩)] #[], .func (.func 61) #[.pointer (some ⟨b, 0, none⟩)] #[], .func (.func 62) #[.pointer (some ⟨b, 0, none⟩)] #[]] 1)
  have h0 := h.idle ((Only.refl (fun _ => False) w).alloc (.cells #[.func (.func 57) #[.pointer (some ⟨b, 0, none⟩)] #[], .func (.func 58) #[.pointer (some ⟨b, 0, none⟩)] #[], .func (.func 59) #[.pointer (some ⟨b, 0, none⟩)] #[], .func (.func 60) #[.pointer (some ⟨b, 0, none⟩)] #[], .func (.func 61) #[.pointer (some ⟨b, 0, none⟩)] #[], .func (.func 62) #[.pointer (some ⟨b, 0, none⟩)] #[]] 1))
  have ho0 := (Only.refl (fun _ => False) w).alloc (.cells #[.func (.func 57) #[.pointer (some ⟨b, 0, none⟩)] #[], .func (.func 58) #[.pointer (some ⟨b, 0, none⟩)] #[], .func (.func 59) #[.pointer (some ⟨b, 0, none⟩)] #[], .func (.func 60) #[.pointer (some ⟨b, 0, none⟩)] #[], .func (.func 61) #[.pointer (some ⟨b, 0, none⟩)] #[], .func (.func 62) #[.pointer (some ⟨b, 0, none⟩)] #[]] 1)
  have FAR := Lib.hid (show ¬ (w.heap.size = rb ∨ w.heap.size = b) from fun e => by have := ne.rbn; have := ne.bn; omega)
  have FAR1 := Lib.hid (show ¬ (w.heap.size = rb) from fun e => by have := ne.rbn; omega)
  have HFB := Lib.hid hfb
  have H0 := Lib.hid h0
  have HO0 := Lib.hid ho0
  have NE := Lib.hid ne
  have HW := Lib.hid hw
  have HWB := Lib.hid hwb
  have HT := Lib.hid hT
  have HG := Lib.hid hg
  have H3 := Lib.hid h3
  clear h ne hw hwb hT hg hfb h0 ho0 h3
  go_enter Tryz.func30, Tryz.ntmps30
  go_wp2
  generalize w.alloc (.cells #[.func (.func 57) #[.pointer (some ⟨b, 0, none⟩)] #[], .func (.func 58) #[.pointer (some ⟨b, 0, none⟩)] #[], .func (.func 59) #[.pointer (some ⟨b, 0, none⟩)] #[], .func (.func 60) #[.pointer (some ⟨b, 0, none⟩)] #[], .func (.func 61) #[.pointer (some ⟨b, 0, none⟩)] #[], .func (.func 62) #[.pointer (some ⟨b, 0, none⟩)] #[]] 1) = w1 at *
  generalize hfbs : w.heap.size = fb at *
  have HFBS := Lib.hid hfbs
  clear hfbs
  refine wp_loop_rounds 7 ?_
  rw [rounds_succ]
  have qf := cell_blk HFB.out 0
  simp at qf
  go_wp2_with (fail)
  refine (readHead b rb sv zs 0 w1 H0.out.rd (cell_blk H0.out.blk 0) NE.out.brb).mono ?_
  rintro e w2 ⟨⟨_, k1, hx, rfl, hr⟩ | ⟨x, hx, rfl⟩, ho⟩
  rotate_left
  · exact ⟨rfl, AllTo.no (.inl ⟨x, hx, rfl⟩) (H0.out.then ho)⟩
  obtain rfl := headP_ok hx
  have HD0 := Lib.hid hx
  have hle := hr.le
  have H2 := Lib.hid (H0.out.read NE.out ho hr)
  have HFB2 := Lib.hid (ho.heap HFB.out FAR1.out)
  have HW2 := Lib.hid ((HW.out.only HO0.out (fun _ _ _ h => h)).only ho (fun j hj hn => HWB.out j hj hn))
  have HT2 := Lib.hid ((HT.out.only HO0.out (fun h => h) (fun h => h)).only ho (fun e => by have e' : _ = rb := e; have := H3.out.1; omega) (fun e => by have e' : _ = rb := e; have := H3.out.1; omega))
  have HG2 := Lib.hid ((HG.out.only HO0.out (fun h => h)).only ho (fun e => by have e' : _ = rb := e; have := H3.out.1; omega))
  obtain ⟨ao, cap, rfl, _, _, _, _, _⟩ := id HW2.out
  obtain ⟨g, o, rfl⟩ := Bytes.addr HW2.out (by omega)
  clear hx hr ho qf H0 HFB HW HT HG HO0 hle
  go_wp2
  rw [rounds_succ]
  have qf := cell_blk HFB2.out 1
  simp at qf
  go_wp2_with (fail)
  refine (readConstants b rb sv zs 8 w2 g o zs.length cap _ _ (fun s => ⟨by simp, by simp⟩) H2.out.reset (NE.out.mono (by rw [← HFBS.out]; exact H2.out.only.size)) HW2.out HT2.out HG2.out).mono ?_
  rintro e w3 ⟨pv, cs, n, e0, hd, ⟨rfl, rfl, hks, hne, hchk, hfit⟩ | ⟨h0, rfl, ho⟩⟩
  rotate_left
  · exact ⟨rfl, AllTo.no (.inr ⟨8, cs, n, e0, HD0.out, hd, .inl ⟨h0, rfl⟩⟩) (H2.out.only.trans ho (fun _ h _ => h))⟩
  have HB := Lib.hid (show ∀ r, r = endP zs (bodyP cs zs (8 + n.toNat)) → DecC zs r from fun r hr => .inr ⟨8, cs, n, 0, HD0.out, hd, .inr ⟨rfl, hr⟩⟩)
  obtain ⟨K, hK⟩ : ∃ K, 8 + n.toNat = K := ⟨_, rfl⟩
  rw [hK] at hks HB
  obtain ⟨ap, cp, rfl, _, _, _, _, _⟩ := id hks.pool
  have B0 := Lib.hid (congrFun (congrFun (bodyP_eq cs) zs) K)
  have HON3 := Lib.hid (H2.out.only.trans hks.only (fun _ h _ => h))
  have HFB3 := Lib.hid (hks.only.heap HFB2.out FAR.out)
  have HT3 := Lib.hid (HT2.out.only hks.only (fun e => by have e' : _ = rb ∨ _ = b := e; have := H3.out; omega) (fun e => by have e' : _ = rb ∨ _ = b := e; have := H3.out; omega))
  have HG3 := Lib.hid (HG2.out.only hks.only (fun e => by have e' : _ = rb ∨ _ = b := e; have := H3.out; omega))
  have HK3 := Lib.hid hks.reset
  have NE3 := Lib.hid hne
  obtain ⟨np, hnp⟩ : ∃ np, cs.length = np := ⟨_, rfl⟩
  rw [hnp] at HK3 NE3
  clear hd hks hne hchk hfit hK qf HD0 H2 HFB2 HW2 HT2 HG2 hnp
  go_wp2
  rw [rounds_succ]
  have qf := cell_blk HFB3.out 2
  simp at qf
  go_wp2_with (fail)
  refine (readNames b rb sv zs K w3 _ cs _ _ _ HK3.out NE3.out).mono ?_
  rintro e w4 (⟨⟨th, su⟩, k4, hx, rfl, hks, r1, r2⟩ | ⟨x, hx, rfl, ho⟩)
  rotate_left
  · exact ⟨rfl, AllTo.no (HB.out _ (by rw [B0.out.trans (bindP_error hx)]; rfl)) (HON3.out.trans ho (fun _ h _ => h))⟩
  have B1 := Lib.hid (B0.out.trans (bindP_ok hx))
  have HR := Lib.hid (And.intro r1 r2)
  have HON4 := Lib.hid (HON3.out.trans hks.only (fun _ h _ => h))
  have HFB4 := Lib.hid (hks.only.heap HFB3.out FAR.out)
  have HT4 := Lib.hid (HT3.out.only hks.only (fun e => by have e' : _ = rb ∨ _ = b := e; have := H3.out; omega) (fun e => by have e' : _ = rb ∨ _ = b := e; have := H3.out; omega))
  have HG4 := Lib.hid (HG3.out.only hks.only (fun e => by have e' : _ = rb ∨ _ = b := e; have := H3.out; omega))
  have HK4 := Lib.hid hks.reset
  have NE4 := Lib.hid (NE3.out.mono hks.only.size)
  simp only at HK4
  clear hx hks r1 r2 qf B0 HK3 NE3 HFB3 HT3 HG3 HON3
  go_wp2
  rw [rounds_succ]
  have qf := cell_blk HFB4.out 3
  simp at qf
  go_wp2_with (fail)
  refine (readFields b rb sv zs k4 w4 _ _ cs th su _ HK4.out NE4.out).mono ?_
  rintro e w5 (⟨fs, k5, hx, rfl, fv, hfs, hfr⟩ | ⟨x, hx, rfl, ho⟩)
  rotate_left
  · exact ⟨rfl, AllTo.no (HB.out _ (by rw [B1.out.trans (bindP_error hx)]; rfl)) (HON4.out.trans ho (fun _ h _ => h))⟩
  obtain ⟨af, cf, rfl, _, _⟩ := slice_of_owns hfs.rg
  have B2 := Lib.hid (B1.out.trans (bindP_ok hx))
  have HFR := Lib.hid hfr
  have HRG5 := Lib.hid (RowG.base hfs.rg HON4.out.size)
  have HON5 := Lib.hid (HON4.out.trans hfs.ks.only (fun _ h _ => h))
  have HFB5 := Lib.hid (hfs.ks.only.heap HFB4.out FAR.out)
  have HT5 := Lib.hid (HT4.out.only hfs.ks.only (fun e => by have e' : _ = rb ∨ _ = b := e; have := H3.out; omega) (fun e => by have e' : _ = rb ∨ _ = b := e; have := H3.out; omega))
  have HG5 := Lib.hid (HG4.out.only hfs.ks.only (fun e => by have e' : _ = rb ∨ _ = b := e; have := H3.out; omega))
  have HK5 := Lib.hid hfs.ks.reset
  have NE5 := Lib.hid (NE4.out.mono hfs.ks.only.size)
  clear hx hfs hfr qf B1 HK4 NE4 HFB4 HT4 HG4 HON4
  go_wp2
  rw [rounds_succ]
  have qf := cell_blk HFB5.out 4
  simp at qf
  go_wp2_with (fail)
  refine (readMethods b rb sv zs k5 w5 _ ap np cp cs th su _ HK5.out NE5.out).mono ?_
  rintro e w6 (⟨ms, k6, hx, rfl, mv, xs, rfl, hms⟩ | ⟨x, hx, rfl, ho⟩)
  rotate_left
  · exact ⟨rfl, AllTo.no (HB.out _ (by rw [B2.out.trans (bindP_error hx)]; rfl)) (HON5.out.trans ho (fun _ h _ => h))⟩
  obtain ⟨am, cm, rfl, _, _⟩ := slice_of_owns hms.rg
  have B3 := Lib.hid (show bodyP cs zs K = bindP (fixedP 2 0) (fun _ => retP ⟨cs, th, su, fs, xs.map (·.1)⟩) zs k6 from B2.out.trans (bindP_ok hx))
  have hS : ∀ j, (fun j => j = rb ∨ j = b) j → j < w.heap.size := fun j hj => by have h1 := NE.out.rbn; have h2 := NE.out.bn; have h3 := HFBS.out; have hj' : j = rb ∨ j = b := hj; omega
  have HRG6 := Lib.hid (HRG5.out.keep hms.ks.only hS)
  have HMG6 := Lib.hid (RowG.base hms.rg HON5.out.size)
  have HIN6 := Lib.hid (show ∀ x ∈ xs, MethodR x.1 ∧ MIn w6 w.heap.size x.1 x.2.1 x.2.2.1 x.2.2.2 from fun x hx => ⟨(hms.ins x hx).1, (hms.ins x hx).2.1.base HON5.out.size⟩)
  have HON6 := Lib.hid (HON5.out.trans hms.ks.only (fun _ h _ => h))
  have HFB6 := Lib.hid (hms.ks.only.heap HFB5.out FAR.out)
  have HT6 := Lib.hid (HT5.out.only hms.ks.only (fun e => by have e' : _ = rb ∨ _ = b := e; have := H3.out; omega) (fun e => by have e' : _ = rb ∨ _ = b := e; have := H3.out; omega))
  have HG6 := Lib.hid (HG5.out.only hms.ks.only (fun e => by have e' : _ = rb ∨ _ = b := e; have := H3.out; omega))
  have HK6 := Lib.hid hms.ks.reset
  have NE6 := Lib.hid (NE5.out.mono hms.ks.only.size)
  clear hx hms qf B2 HK5 NE5 HFB5 HT5 HG5 HON5 HRG5
  go_wp2
  rw [rounds_succ]
  have qf := cell_blk HFB6.out 5
  simp at qf
  go_wp2_with (fail)
  refine (readEnd b rb sv zs k6 w6 HK6.out.rd (cell_blk HK6.out.blk 0) NE.out.brb).mono ?_
  rintro e w7 ⟨⟨_, k7, hx, rfl, hr⟩ | ⟨x, hx, rfl⟩, ho⟩
  rotate_left
  · exact ⟨rfl, AllTo.no (HB.out _ (end_no B3.out hx).symm) (HON6.out.trans ho (fun _ h _ => .inl h))⟩
  have HE := Lib.hid (end_yes B3.out hx)
  have hS1 : ∀ j, (fun j => j = rb) j → j < w.heap.size := fun j hj => by have := NE.out.rbn; have := HFBS.out; have hj' : j = rb := hj; omega
  have hk7 := HK6.out.read NE6.out ho hr
  have hdm : DM w7 w.heap.size (.slice ap np cp) (.slice af fs.length cf) (.slice am xs.length cm) ⟨cs, th, su, fs, xs.map (·.1)⟩ :=
    ⟨hk7.pool, HRG6.out.keep ho hS1, HFR.out, ⟨xs, rfl, HMG6.out.keep ho hS1, fun x hx => ⟨(HIN6.out x hx).1, (HIN6.out x hx).2.keep ho hS1⟩⟩, HR.out⟩
  have HDM := Lib.hid hdm
  have HBK := Lib.hid hk7.blk
  have HON7 := Lib.hid (HON6.out.trans ho (fun _ h _ => .inl h))
  have HT7 := Lib.hid (HT6.out.only ho (fun e => by have e' : _ = rb := e; have := H3.out.1; omega) (fun e => by have e' : _ = rb := e; have := H3.out.1; omega))
  have HG7 := Lib.hid (HG6.out.only ho (fun e => by have e' : _ = rb := e; have := H3.out.1; omega))
  have HAP := Lib.hid (show ∀ j, (Value.slice ap np cp).ownBlock = some j → ¬ (j = rb ∨ j = b) from fun j hj e => by
    rcases e with e | e
    · exact NE6.out.prb j hj e
    · exact NE6.out.pb j hj e)
  have q2 := cell_blk hk7.blk 2
  have q3 := cell_blk hk7.blk 3
  have q4 := cell_blk hk7.blk 4
  have q5 := cell_blk hk7.blk 5
  have q6 := cell_blk hk7.blk 6
  simp at q2 q3 q4 q5 q6
  obtain ⟨N1, hN1⟩ : ∃ N1, fs.length = N1 := ⟨_, rfl⟩
  obtain ⟨N2, hN2⟩ : ∃ N2, xs.length = N2 := ⟨_, rfl⟩
  rw [hN1] at HDM HBK q5
  rw [hN2] at HDM HBK q6
  clear hx hr ho qf hk7 hdm hS hS1 B3 HK6 NE6 HFB6 HT6 HG6 HON6 HRG6 HMG6 HIN6 hN1 hN2 HFR HR
  go_wp2
  rw [rounds_succ]
  go_wp2_with (fail)
  refine (clsCheck _ _ _ ⟨cs, th, su, fs, xs.map (·.1)⟩ w7 HDM.out.cls HT7.out HG7.out).mono ?_
  rintro e w8 ⟨⟨hz, rfl⟩ | ⟨hz, rfl⟩, ho⟩
  rotate_left
  · exact ⟨rfl, AllTo.no (HB.out _ (by rw [HE.out, if_neg hz])) (HON7.out.trans ho (fun _ h _ => h.elim))⟩
  have HF := Lib.hid (show AllTo w b rb (.slice (some ⟨g, o, none⟩) zs.length cap) zs (.returned (.tuple #[])) w8 from
    ⟨_, HB.out _ (show Except.ok (⟨cs, th, su, fs, xs.map (·.1)⟩ : ClassV) = _ by rw [HE.out, if_pos hz]), HON7.out.trans ho (fun _ h _ => h.elim), .inl ⟨_, _, _, _, rfl, rfl, ho.heap HBK.out (fun h => h), HDM.out.keep ho (fun _ h => h.elim) (fun _ _ h => h), hz, HAP.out⟩⟩)
  clear hz ho
  go_wp2
  go_end0
  exact HF.out

set_option maxHeartbeats 2000000 in
set_option maxRecDepth 100000 in
theorem newReader5 (ao : Option Addr) (cap : Nat) (zs : List Int) (w : World) (hb : Bytes w (.slice ao zs.length cap) zs) (hl : zs.length ≤ 281474976710656) :
    Calls Tryz.prog 28 #[.slice ao zs.length cap] w fun e w' => ∃ b rb sv, e = .returned (.pointer (some ⟨b, 0, none⟩)) ∧
      KS w' w' b rb sv (zs.take 1048576) 0 (.slice none 0 0) [] #[.pointer (some ⟨rb, 0, none⟩), .slice ao (zs.take 1048576).length cap, .slice none 0 0, .int .i64 0, .int .i64 0, .slice none 0 0, .slice none 0 0] ∧
      Ap2 b rb sv (.slice none 0 0) w'.heap.size ∧ Only (fun _ => False) w w' ∧ w.heap.size ≤ b ∧ w.heap.size ≤ rb ∧ Bytes w' (.slice ao (zs.take 1048576).length cap) (zs.take 1048576) := by
  obtain ⟨ao', cap', e0, hq1, hq2, hq3, hbz, hcells⟩ := id hb
  injection e0 with e1 _ e3
  subst e1 e3
  have hM : (min (1048576 : Int) (zs.length : Int)).toNat = (zs.take 1048576).length := by rw [List.length_take]; omega
  have hml : (zs.take 1048576).length ≤ zs.length := by rw [List.length_take]; omega
  have htk : zs.take (zs.take 1048576).length = zs.take 1048576 := by
    rw [List.length_take]
    by_cases h : zs.length ≤ 1048576
    · rw [Nat.min_eq_right h, List.take_of_length_le (Nat.le_refl _), List.take_of_length_le h]
    · rw [Nat.min_eq_left (by omega)]
  have hb1 := Bytes.first hb _ hml
  rw [htk] at hb1
  have cN := newReader _ (zs.take 1048576) w hb1 (by rw [List.length_take]; omega)
  obtain ⟨ys, hys⟩ : ∃ ys, zs.take 1048576 = ys := ⟨_, rfl⟩
  rw [hys] at hM cN hb1
  rw [hys]
  have CN := Lib.hid cN
  have HM := Lib.hid hM
  have HB1 := Lib.hid hb1
  clear hb hcells hq3 hml htk hb1 cN hys hbz hM
  go_enter Tryz.func28, Tryz.ntmps28
  go_wp2_with (fail)
  rw [HM.out]
  refine CN.out.mono ?_
  rintro e w1 ⟨rb, sv, rfl, hrd, hbel, hge, hsv⟩
  have ho1 := Only.of_below hbel (fun _ => False)
  have ho2 := (Only.refl (fun _ => False) w1).alloc (.cells #[.pointer (some ⟨rb, 0, none⟩), .slice ao ys.length cap, .slice none 0 0, .int .i64 0, .int .i64 0, .slice none 0 0, .slice none 0 0] 74)
  have hnb := heap_alloc_new w1 (.cells #[.pointer (some ⟨rb, 0, none⟩), .slice ao ys.length cap, .slice none 0 0, .int .i64 0, .int .i64 0, .slice none 0 0, .slice none 0 0] 74)
  have hlt := hrd.lt
  have HF := Lib.hid (show ∃ b rb' sv', Ending.returned (.pointer (some ⟨w1.heap.size, 0, none⟩)) = .returned (.pointer (some ⟨b, 0, none⟩)) ∧
      KS (w1.alloc (.cells #[.pointer (some ⟨rb, 0, none⟩), .slice ao ys.length cap, .slice none 0 0, .int .i64 0, .int .i64 0, .slice none 0 0, .slice none 0 0] 74)) (w1.alloc (.cells #[.pointer (some ⟨rb, 0, none⟩), .slice ao ys.length cap, .slice none 0 0, .int .i64 0, .int .i64 0, .slice none 0 0, .slice none 0 0] 74)) b rb' sv' ys 0 (.slice none 0 0) [] #[.pointer (some ⟨rb', 0, none⟩), .slice ao ys.length cap, .slice none 0 0, .int .i64 0, .int .i64 0, .slice none 0 0, .slice none 0 0] ∧
      Ap2 b rb' sv' (.slice none 0 0) (w1.alloc (.cells #[.pointer (some ⟨rb, 0, none⟩), .slice ao ys.length cap, .slice none 0 0, .int .i64 0, .int .i64 0, .slice none 0 0, .slice none 0 0] 74)).heap.size ∧ Only (fun _ => False) w (w1.alloc (.cells #[.pointer (some ⟨rb, 0, none⟩), .slice ao ys.length cap, .slice none 0 0, .int .i64 0, .int .i64 0, .slice none 0 0, .slice none 0 0] 74)) ∧ w.heap.size ≤ b ∧ w.heap.size ≤ rb' ∧ Bytes (w1.alloc (.cells #[.pointer (some ⟨rb, 0, none⟩), .slice ao ys.length cap, .slice none 0 0, .int .i64 0, .int .i64 0, .slice none 0 0, .slice none 0 0] 74)) (.slice ao ys.length cap) ys from by
    have hs : (w1.alloc (.cells #[.pointer (some ⟨rb, 0, none⟩), .slice ao ys.length cap, .slice none 0 0, .int .i64 0, .int .i64 0, .slice none 0 0, .slice none 0 0] 74)).heap.size = w1.heap.size + 1 := by simp
    refine ⟨w1.heap.size, rb, sv, rfl, ⟨hrd.only ho2 (fun h => h) (fun _ _ h => h), hnb, Pool.nil _, Only.refl _ _⟩, ⟨by have := hlt.1; omega, fun j hj => by simp [Value.ownBlock] at hj, fun j hj => by simp [Value.ownBlock] at hj, fun j hj e => by have := hlt.2 j hj; omega, by have := hlt.1; omega, by omega, fun j hj => by simp [Value.ownBlock] at hj, fun j hj => by have := hlt.2 j hj; omega⟩, ho1.trans ho2 (fun _ h _ => h), ho1.size, hge, (HB1.out.only ho1 (fun _ _ _ h => h)).only ho2 (fun _ _ _ h => h)⟩)
  clear hrd hbel hge hsv ho1 ho2 hnb hlt CN
  go_wp2
  go_ret
  exact HF.out

theorem ClassM.nil (w : World) : ClassM w (.slice none 0 0) (.slice none 0 0) (.slice none 0 0) ⟨[], 0, 0, [], []⟩ :=
  ⟨Pool.nil w, ⟨Sl.nil _, fun f hf => by cases hf⟩, ⟨fun _ => (.slice none 0 0, .slice none 0 0, .slice none 0 0), Sl.nil _, fun i hi => by simp at hi, fun m hm => by cases hm⟩, ⟨by decide, by decide⟩, by decide, by decide⟩
/-- What the program's Decode leaves. -/
def DecCTo (w : World) (zs : List Int) (e : Ending) (w' : World) : Prop :=
  ∃ vp vf vm c e0, e = .returned (.tuple #[.agg #[vp, .int .i64 c.this, .int .i64 c.super, vf, vm], .int .i64 e0]) ∧ Only (fun _ => False) w w' ∧ ClassM w' vp vf vm c ∧
    ((e0 = 0 ∧ DecC zs (.ok c) ∧ clsZ c = 0) ∨ (e0 ≠ 0 ∧ DecC zs (.error e0) ∧ c = ⟨[], 0, 0, [], []⟩ ∧ vp = .slice none 0 0 ∧ vf = .slice none 0 0 ∧ vm = .slice none 0 0))
/-- What goes through all leaves for what takes up refusals. -/
def AllQ (W : World) (b rb : Nat) (wv : Value) (ys : List Int) (z : Int) (w2 : World) : Prop :=
  ∃ r, DecC ys r ∧ Only (fun j => j = rb ∨ j = b) W w2 ∧
    ((z = 0 ∧ ∃ c vp vf vm, r = .ok c ∧ w2.heap[b]? = some (.cells #[.pointer (some ⟨rb, 0, none⟩), wv, vp, .int .i64 c.this, .int .i64 c.super, vf, vm] 74 (0, 0)) ∧ DM w2 W.heap.size vp vf vm c ∧ clsZ c = 0) ∨ (z ≠ 0 ∧ r = .error z))
set_option maxHeartbeats 4000000 in
set_option maxRecDepth 100000 in
theorem progClsDecode (v : Value) (zs : List Int) (w : World) (hb : Bytes w v zs) (hl : zs.length ≤ 281474976710656) (hT : Tabs w) (hg : ErrV w) :
    Calls Tryz.prog 11 #[v] w (DecCTo w zs) := by
  obtain ⟨ao, cap, rfl, _, _, _, _, _⟩ := id hb
  have hmf : ∀ (fn : Fn) (first cap : Array Value) (w : World), (Instr.makeFunc fn first cap).run Tryz.prog w = .ok (.func fn first cap) w := fun _ _ _ _ => rfl
  have hen : Enters Tryz.prog 30 := enters_of Tryz.func30 (by kernel_rfl) rfl
  have hoA := (Only.refl (fun _ => False) w).alloc (.cells #[.slice none 0 0, .int .i64 0, .int .i64 0, .slice none 0 0, .slice none 0 0] 26)
  have hbA := heap_alloc_new w (.cells #[.slice none 0 0, .int .i64 0, .int .i64 0, .slice none 0 0, .slice none 0 0] 26)
  have cN := newReader5 ao cap zs _ (hb.only hoA (fun _ _ _ h => h)) hl
  have HBZ := Lib.hid (show ∀ (n j : Nat), (Value.slice ao n cap).ownBlock = some j → zs ≠ [] → j < (w.alloc (.cells #[.slice none 0 0, .int .i64 0, .int .i64 0, .slice none 0 0, .slice none 0 0] 26)).heap.size from fun n j hj hn => (hb.only hoA (fun _ _ _ h => h)).lt j (by cases ao <;> exact hj) hn)
  have H3 := Lib.hid hT.lt3
  have HT := Lib.hid (hT.only hoA (fun h => h) (fun h => h))
  have HG := Lib.hid (hg.only hoA (fun h => h))
  have HEN := Lib.hid hen
  have HO := Lib.hid hoA
  have HBA := Lib.hid hbA
  have CN := Lib.hid cN
  have HSA := Lib.hid (show (w.alloc (.cells #[.slice none 0 0, .int .i64 0, .int .i64 0, .slice none 0 0, .slice none 0 0] 26)).heap.size = w.heap.size + 1 by simp)
  clear hb hl hT hg hen hoA hbA cN
  go_enter Tryz.func11, Tryz.ntmps11
  go_wp2_with (fail)
  generalize w.alloc (.cells #[.slice none 0 0, .int .i64 0, .int .i64 0, .slice none 0 0, .slice none 0 0] 26) = wA at *
  refine CN.out.mono ?_
  rintro e w1 ⟨b, rb, sv, rfl, hks, hne, ho1, hgb, hgr, hbw⟩
  have hD : ∀ r, DecC (zs.take 1048576) r → DecC zs r := fun r h => h.take
  obtain ⟨ys, hys⟩ : ∃ ys, zs.take 1048576 = ys := ⟨_, rfl⟩
  have hBL : ∀ j, (Value.slice ao (zs.take 1048576).length cap).ownBlock = some j → zs.take 1048576 ≠ [] → j < wA.heap.size := fun j hj hn => HBZ.out _ j hj (fun e => hn (by rw [e]; rfl))
  rw [hys] at hks hbw hD hBL
  have HBL := Lib.hid hBL
  have hoE := (Only.refl (fun _ => False) w1).alloc (.cells #[.int .i64 0] 28)
  have heE := heap_alloc_new w1 (.cells #[.int .i64 0] 28)
  have hsE : (w1.alloc (.cells #[.int .i64 0] 28)).heap.size = w1.heap.size + 1 := by simp
  have hks2 := (hks.idle hoE).reset
  have cA := readAll b rb sv ys (w1.alloc (.cells #[.int .i64 0] 28)) _ hks2 (hne.mono hoE.size) (hbw.only hoE (fun _ _ _ h => h)) (fun j hj hn e => by have := HBL.out j hj hn; omega) ((HT.out.only ho1 (fun h => h) (fun h => h)).only hoE (fun h => h) (fun h => h)) ((HG.out.only ho1 (fun h => h)).only hoE (fun h => h)) ⟨by have := H3.out; have := HSA.out; omega, by have := H3.out; have := HSA.out; omega⟩
  have cR := refusal 30 HEN.out #[.pointer (some ⟨b, 0, none⟩)] #[] w1 (AllQ (w1.alloc (.cells #[.int .i64 0] 28)) b rb (.slice ao ys.length cap) ys) (cA.mono (fun e w2 ⟨r, hd, ho, hres⟩ => by
      rcases hres with ⟨c, vp, vf, vm, rfl, rfl, hblk, hdm, hz, hap⟩ | ⟨x, rfl, rfl⟩
      · exact ⟨0, .inl ⟨rfl, rfl⟩, _, hd, ho, .inl ⟨rfl, c, vp, vf, vm, rfl, hblk, hdm, hz⟩⟩
      · exact ⟨x, .inr ⟨hd.ne, rfl⟩, _, hd, ho, .inr ⟨hd.ne, rfl⟩⟩)) (fun z w2 ⟨r, hd, ho, hres⟩ => ho.heap heE (fun e => by have := hne.rbn; have := hne.bn; omega))
  have CR := Lib.hid cR
  have HDD := Lib.hid hD
  have HO1 := Lib.hid (HO.out.trans ho1 (fun _ h _ => h))
  have HB1 := Lib.hid (ho1.heap HBA.out (fun h => h))
  have HLT := Lib.hid (show w.heap.size < b ∧ w.heap.size < rb ∧ b < w1.heap.size ∧ rb < w1.heap.size from ⟨by have := HSA.out; omega, by have := HSA.out; omega, hne.bn, hne.rbn⟩)
  have HSE := Lib.hid hsE
  clear hks hne ho1 hgb hgr hbw hD hys hoE heE hsE hks2 cA cR HEN HT HG CN
  go_wp2_with (fail)
  refine CR.out.mono ?_
  rintro e w3 ⟨z, w2, rfl, ⟨r, hd, ho, hres⟩, rfl⟩
  have hoE := (Only.refl (fun _ => False) w1).alloc (.cells #[.int .i64 0] 28)
  have hbE := heap_alloc_new w1 (.cells #[.int .i64 0] 28)
  have hb2 := ho.heap (hoE.heap HB1.out (fun h => h)) (fun e => by have := HLT.out; omega)
  have hb2e := ho.heap hbE (fun e => by have := HLT.out; omega)
  have hb3 := ((Only.refl (fun j => j = w1.heap.size) w2).setCell (p := ⟨w1.heap.size, 0, none⟩) (fun _ => rfl) (.int .i64 z)).heap hb2 (fun e => by have := HLT.out; omega)
  have q0 := cell_blk hb3 0
  have q1 := cell_blk hb3 1
  have q2 := cell_blk hb3 2
  have q3 := cell_blk hb3 3
  have q4 := cell_blk hb3 4
  have f0 := frozen_blk hb3 0
  have f1 := frozen_blk hb3 1
  have f2 := frozen_blk hb3 2
  have f3 := frozen_blk hb3 3
  have f4 := frozen_blk hb3 4
  simp at q0 q1 q2 q3 q4
  have HON := Lib.hid (show Only (fun _ => False) w (w2.setCell ⟨w1.heap.size, 0, none⟩ (.int .i64 z)) from
    ((HO1.out.trans hoE (fun _ h _ => h)).trans ho (fun i hi hl => by have := HLT.out; omega)).setCell (fun hl => by have := HLT.out; have hl' : w1.heap.size < w.heap.size := hl; omega) _)
  have HDR := Lib.hid (HDD.out _ hd)
  rcases hres with ⟨rfl, c, vp, vf, vm, rfl, hblk, hdm, hz⟩ | ⟨hz, rfl⟩
  · have hpos : 0 < c.pool.length := by
      have h0 := (clsZ_zero hz).1
      cases hcp : c.pool with
      | nil => rw [hcp] at h0; simp [checkZ] at h0
      | cons a l => simp
    obtain ⟨ap, cp, rfl, _, _, _, _, _⟩ := id hdm.pool
    obtain ⟨af, cf, rfl, _, _⟩ := slice_of_owns hdm.fields
    obtain ⟨xs, hxs, hxm, hxi⟩ := id hdm.methods
    obtain ⟨am, cm, rfl, _, _⟩ := slice_of_owns hxm
    have hap : ∀ j, (Value.slice ap c.pool.length cp).ownBlock = some j → ¬ (j = w.heap.size ∨ j = w1.heap.size) := fun j hj e => by
      obtain ⟨_, o', s', hc⟩ := Pool.apart hdm.pool hpos hj
      rcases e with rfl | rfl
      · exact no_string hb2 (by intro u hu s; simp at hu; rcases hu with rfl | rfl | rfl | rfl | rfl <;> simp) hc
      · exact no_string hb2e (by intro u hu s; simp at hu; subst hu; simp) hc
    have hblk3 := ((Only.refl (fun j => j = w1.heap.size) w2).setCell (p := ⟨w1.heap.size, 0, none⟩) (fun _ => rfl) (.int .i64 0)).heap hblk (fun e => by have := HLT.out; omega)
    have p2 := cell_blk hblk3 2
    have p3 := cell_blk hblk3 3
    have p4 := cell_blk hblk3 4
    have p5 := cell_blk hblk3 5
    have p6 := cell_blk hblk3 6
    simp at p2 p3 p4 p5 p6
    have HKEEP := Lib.hid (show ∀ u : World, Only (fun j => j = w.heap.size ∨ j = w1.heap.size) w2 u → ClassM u (.slice ap c.pool.length cp) (.slice af c.fields.length cf) (.slice am xs.length cm) c from fun u hu => (hdm.keep hu (fun j hj => by have h1 := HLT.out; have h2 := HSE.out; have hj' : j = w.heap.size ∨ j = w1.heap.size := hj; omega) hap).cls)
    have HZ := Lib.hid hz
    have hne0 : w.heap.size ≠ b := by have := HLT.out; omega
    obtain ⟨n1, hn1⟩ : ∃ n1, c.pool.length = n1 := ⟨_, rfl⟩
    obtain ⟨n2, hn2⟩ : ∃ n2, c.fields.length = n2 := ⟨_, rfl⟩
    obtain ⟨n3, hn3⟩ : ∃ n3, xs.length = n3 := ⟨_, rfl⟩
    rw [hn1] at HKEEP p2
    rw [hn2] at HKEEP p5
    rw [hn3] at HKEEP p6
    obtain ⟨cpool, cthis, csuper, cfields, cmethods⟩ := c
    simp only at p3 p4
    clear hd ho hoE hbE hb2 hb2e hb3 hblk hblk3 hdm hz hxs hxm hxi hap hpos hn1 hn2 hn3
    go_wp2
    refine bodyPost_ret (v := .tuple #[.agg #[.slice ap n1 cp, .int .i64 cthis, .int .i64 csuper, .slice af n2 cf, .slice am n3 cm], .int .i64 0]) (by simp [results, Tryz.results11, go_sem, q0, q1, q2, q3, q4, f0, f1, f2, f3, f4]) rfl ?_
    refine ⟨_, _, _, _, 0, rfl, ?_, HKEEP.out _ ?_, .inl ⟨rfl, HDR.out, HZ.out⟩⟩
    · iterate 5 (refine Only.setCell ?_ (fun hl => absurd hl (Nat.lt_irrefl _)) _)
      exact HON.out
    · iterate 5 (refine Only.setCell ?_ (fun _ => .inl rfl) _)
      refine Only.setCell ?_ (fun _ => .inr rfl) _
      exact Only.refl _ _
  · have hne2 : (z == 0) = false := by simpa using hz
    have HNZ := Lib.hid hz
    clear hd ho hoE hbE hb2 hb2e hb3 hz
    go_wp2
    refine bodyPost_ret (v := .tuple #[.agg #[.slice none 0 0, .int .i64 0, .int .i64 0, .slice none 0 0, .slice none 0 0], .int .i64 z]) (by simp [results, Tryz.results11, go_sem, q0, q1, q2, q3, q4, f0, f1, f2, f3, f4]) rfl ?_
    refine ⟨_, _, _, ⟨[], 0, 0, [], []⟩, z, rfl, ?_, ClassM.nil _, .inr ⟨HNZ.out, HDR.out, rfl, rfl, rfl, rfl⟩⟩
    iterate 5 (refine Only.setCell ?_ (fun hl => absurd hl (Nat.lt_irrefl _)) _)
    exact HON.out
end Go.Proofs.YtodhdiccfobcfaaGreatDoor
