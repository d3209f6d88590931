/- PROVED: the law KindGoes: what may stand for another goes on; each for itself, null for all; the arguments read as before. For every input. No condition. -/
import Derived.Test.YtcmceabkadgfiaaKndZ
import Derived.Test.YtcmceabkadgfiaaKndR
import Derived.Test.YtcmceabkadgfiaaKndN
import Derived.Test.YtcmceabkadgfiaaKndK
import Derived.Test.YtcmceabkadgfiaaKndY
import Derived.ProofKit
import Derived.ShutString
import Derived.ChangeOld
import Derived.Below
import Derived.SizedLaws
import Derived.PinnedBridge
import Derived.Deep.CondSized
import Derived.Deep.RegionHeld3
namespace Go.Proofs.Ytcmceabkadgfiaa.kindGoes
open Go.ChangeShapes Go.WideShapes Go.ChangeAt Go.RowKit
set_option linter.unusedVariables false
set_option linter.unusedSimpArgs false

set_option maxHeartbeats 16000000 in
set_option maxRecDepth 100000 in
theorem walk (v va vb vc : Value) (w : World) (hp : ∃ l, Pairs w v l ∧ NamesR l ∧ l.length ≤ 4398046511104) (ha : ∃ t, va = valT t ∧ TypeR t) (hb : ∃ t, vb = valT t ∧ TypeR t) (hc : ∃ t, vc = valT t ∧ TypeR t) :
    Calls Try.prog 9 #[v, va, vb, vc] w fun e w' => e = .returned (.bool true) ∧ Below w.heap.size w w' := by
  obtain ⟨l, hp, hn, hl⟩ := hp
  obtain ⟨a, rfl, ha⟩ := ha
  obtain ⟨b, rfl, hb⟩ := hb
  obtain ⟨c, rfl, hc⟩ := hc
  obtain ⟨ao, cap, rfl, p1, p2, p3, -⟩ := id hp
  have NA := Lib.hid (show a.name.size ≤ maxLen by unfold maxLen; have := ha.2.2.2.2; omega)
  have NB := Lib.hid (show b.name.size ≤ maxLen by unfold maxLen; have := hb.2.2.2.2; omega)
  have NZ := Lib.hid (show (⟨3, ⟨#[]⟩, 0, 0, 0⟩ : TypeV).name.size ≤ maxLen by unfold maxLen; exact Nat.zero_le _)
  have h1 := (Only.refl (fun _ => False) w).alloc (.cells #[.int .i64 a.k, .string a.name, .int .i64 a.dims, .int .i64 a.elem, .int .i64 a.at_] 23)
  have h2 := (Only.refl (fun _ => False) (w.alloc (.cells #[.int .i64 a.k, .string a.name, .int .i64 a.dims, .int .i64 a.elem, .int .i64 a.at_] 23))).alloc (.cells #[.int .i64 b.k, .string b.name, .int .i64 b.dims, .int .i64 b.elem, .int .i64 b.at_] 23)
  have h3 := (Only.refl (fun _ => False) ((w.alloc (.cells #[.int .i64 a.k, .string a.name, .int .i64 a.dims, .int .i64 a.elem, .int .i64 a.at_] 23)).alloc (.cells #[.int .i64 b.k, .string b.name, .int .i64 b.dims, .int .i64 b.elem, .int .i64 b.at_] 23))).alloc (.cells #[.int .i64 c.k, .string c.name, .int .i64 c.dims, .int .i64 c.elem, .int .i64 c.at_] 23)
  have hba := h3.heap (h2.heap (heap_alloc_new w (.cells #[.int .i64 a.k, .string a.name, .int .i64 a.dims, .int .i64 a.elem, .int .i64 a.at_] 23)) (fun h => h)) (fun h => h)
  have hbb := h3.heap (heap_alloc_new (w.alloc (.cells #[.int .i64 a.k, .string a.name, .int .i64 a.dims, .int .i64 a.elem, .int .i64 a.at_] 23)) (.cells #[.int .i64 b.k, .string b.name, .int .i64 b.dims, .int .i64 b.elem, .int .i64 b.at_] 23)) (fun h => h)
  have hbc := heap_alloc_new ((w.alloc (.cells #[.int .i64 a.k, .string a.name, .int .i64 a.dims, .int .i64 a.elem, .int .i64 a.at_] 23)).alloc (.cells #[.int .i64 b.k, .string b.name, .int .i64 b.dims, .int .i64 b.elem, .int .i64 b.at_] 23)) (.cells #[.int .i64 c.k, .string c.name, .int .i64 c.dims, .int .i64 c.elem, .int .i64 c.at_] 23)
  simp only [World.size_alloc] at hbb hbc
  have HO0 := Lib.hid ((h1.trans h2 (fun _ h _ => h)).trans h3 (fun _ h _ => h))
  have HA0 := Lib.hid hba
  have HB0 := Lib.hid hbb
  have HC0 := Lib.hid hbc
  have HP := Lib.hid hp
  have HN := Lib.hid hn
  have CA := Lib.hid awake8
  have c1 := lawTree _ l _ (hp.only HO0.out) hl
  have C1 := Lib.hid c1
  unfold valT
  clear c1 hp hn ha hb hc p3 h1 h2 h3 hba hbb hbc
  go_enter Try.func9, Try.ntmps9
  go_wp2_with (fail)
  refine C1.out.mono ?_
  rintro e w1 ⟨vt, rfl, hpt, ho1⟩
  obtain ⟨at_, ct, rfl, t1, t2, t3, -⟩ := id hpt
  have HO1 := Lib.hid (HO0.out.trans ho1 (fun _ h _ => h))
  have HA1 := Lib.hid (ho1.heap HA0.out (fun h => h))
  have HB1 := Lib.hid (ho1.heap HB0.out (fun h => h))
  have HC1 := Lib.hid (ho1.heap HC0.out (fun h => h))
  have HT1 := Lib.hid hpt
  clear ho1 C1 hpt t3
  obtain ⟨q0, q1, q2, q3, q4⟩ := cells5T HA1.out
  obtain ⟨r0, r1, r2, r3, r4⟩ := cells5T HB1.out
  obtain ⟨s0, s1, s2, s3, s4⟩ := cells5T HC1.out
  have cc := progAssign (.slice at_ l.length ct) l a a _ HT1.out (by omega) HN.out NA.out
  rw [assignZ_self l a] at cc
  unfold valT at cc
  have CC := Lib.hid cc
  clear cc
  go_wp2_with (fail)
  refine CC.out.mono ?_
  rintro e w2 ⟨rfl, ho2⟩
  clear CC
  have HO2 := Lib.hid (HO1.out.trans ho2 (fun _ h _ => h))
  have HA2 := Lib.hid (ho2.heap HA1.out (fun h => h))
  have HB2 := Lib.hid (ho2.heap HB1.out (fun h => h))
  have HC2 := Lib.hid (ho2.heap HC1.out (fun h => h))
  have HT2 := Lib.hid (HT1.out.only ho2)
  clear ho2 q0 q1 q2 q3 q4 r0 r1 r2 r3 r4 s0 s1 s2 s3 s4
  obtain ⟨q0, q1, q2, q3, q4⟩ := cells5T HA2.out
  obtain ⟨r0, r1, r2, r3, r4⟩ := cells5T HB2.out
  obtain ⟨s0, s1, s2, s3, s4⟩ := cells5T HC2.out
  have cc := progAssign (.slice at_ l.length ct) l a zeroT _ HT2.out (by omega) HN.out NA.out
  rw [assignZ_zero l a zeroT rfl] at cc
  unfold valT at cc
  have CC := Lib.hid cc
  clear cc
  go_wp2_with (fail)
  refine CC.out.mono ?_
  rintro e w3 ⟨rfl, ho3⟩
  clear CC
  have HO3 := Lib.hid (HO2.out.trans ho3 (fun _ h _ => h))
  have HA3 := Lib.hid (ho3.heap HA2.out (fun h => h))
  have HB3 := Lib.hid (ho3.heap HB2.out (fun h => h))
  have HC3 := Lib.hid (ho3.heap HC2.out (fun h => h))
  have HT3 := Lib.hid (HT2.out.only ho3)
  clear ho3 q0 q1 q2 q3 q4 r0 r1 r2 r3 r4 s0 s1 s2 s3 s4
  obtain ⟨q0, q1, q2, q3, q4⟩ := cells5T HA3.out
  obtain ⟨r0, r1, r2, r3, r4⟩ := cells5T HB3.out
  obtain ⟨s0, s1, s2, s3, s4⟩ := cells5T HC3.out
  by_cases k4 : b.k = 4
  · have k4b : (b.k == 4) = true := by rw [k4]; rfl
    have Hk4 := Lib.hid k4
    clear k4
    have cc := progAssign (.slice at_ l.length ct) l ⟨3, ⟨#[]⟩, 0, 0, 0⟩ b _ HT3.out (by omega) HN.out NZ.out
    rw [assignZ_null l ⟨3, ⟨#[]⟩, 0, 0, 0⟩ b rfl (.inl Hk4.out)] at cc
    unfold valT at cc
    have CC := Lib.hid cc
    clear cc
    go_wp2_with (fail)
    refine CC.out.mono ?_
    rintro e w4 ⟨rfl, ho4⟩
    clear CC
    have HO4 := Lib.hid (HO3.out.trans ho4 (fun _ h _ => h))
    have HA4 := Lib.hid (ho4.heap HA3.out (fun h => h))
    have HB4 := Lib.hid (ho4.heap HB3.out (fun h => h))
    have HC4 := Lib.hid (ho4.heap HC3.out (fun h => h))
    have HT4 := Lib.hid (HT3.out.only ho4)
    clear ho4 q0 q1 q2 q3 q4 r0 r1 r2 r3 r4 s0 s1 s2 s3 s4
    obtain ⟨q0, q1, q2, q3, q4⟩ := cells5T HA4.out
    obtain ⟨r0, r1, r2, r3, r4⟩ := cells5T HB4.out
    obtain ⟨s0, s1, s2, s3, s4⟩ := cells5T HC4.out
    have cr := rooted_ _ l _ (HP.out.only HO4.out) (by omega)
    have CR := Lib.hid cr
    clear cr
    go_wp2_with (fail)
    refine CR.out.mono ?_
    rintro e w5 ⟨rt, rfl, hrt, ho5⟩
    have HRT := Lib.hid hrt
    clear hrt CR
    have HO5 := Lib.hid (HO4.out.trans ho5 (fun _ h _ => h))
    have HA5 := Lib.hid (ho5.heap HA4.out (fun h => h))
    have HB5 := Lib.hid (ho5.heap HB4.out (fun h => h))
    have HC5 := Lib.hid (ho5.heap HC4.out (fun h => h))
    have HT5 := Lib.hid (HT4.out.only ho5)
    clear ho5 q0 q1 q2 q3 q4 r0 r1 r2 r3 r4 s0 s1 s2 s3 s4
    obtain ⟨q0, q1, q2, q3, q4⟩ := cells5T HA5.out
    obtain ⟨r0, r1, r2, r3, r4⟩ := cells5T HB5.out
    obtain ⟨s0, s1, s2, s3, s4⟩ := cells5T HC5.out
    cases rt with
    | false =>
      go_wp2_with (fail)
      refine (CA.out _).mono ?_
      rintro e w6 ⟨rfl, ho6⟩
      have HO6 := Lib.hid (HO5.out.trans ho6 (fun _ h _ => h))
      clear ho6
      go_wp2
      go_ret
      exact ⟨rfl, HO6.out.none⟩
    | true =>
      by_cases ka : a.k = 4
      · have kab : (a.k != 4) = false := by rw [bne, ka]; rfl
        have Hka := Lib.hid ka
        clear ka
        by_cases kb : b.k = 4
        · have kbb : (b.k != 4) = false := by rw [bne, kb]; rfl
          have Hkb := Lib.hid kb
          clear kb
          by_cases kc : c.k = 4
          · have kcb : (c.k != 4) = false := by rw [bne, kc]; rfl
            have Hkc := Lib.hid kc
            clear kc
            cases z1h : assignZ l a b with
            | false =>
              have cc := progAssign (.slice at_ l.length ct) l a b _ HT5.out (by omega) HN.out NA.out
              rw [z1h] at cc
              unfold valT at cc
              have CC := Lib.hid cc
              clear cc
              go_wp2_with (fail)
              refine CC.out.mono ?_
              rintro e w6 ⟨rfl, ho6⟩
              clear CC
              have HO6 := Lib.hid (HO5.out.trans ho6 (fun _ h _ => h))
              have HA6 := Lib.hid (ho6.heap HA5.out (fun h => h))
              have HB6 := Lib.hid (ho6.heap HB5.out (fun h => h))
              have HC6 := Lib.hid (ho6.heap HC5.out (fun h => h))
              have HT6 := Lib.hid (HT5.out.only ho6)
              clear ho6 q0 q1 q2 q3 q4 r0 r1 r2 r3 r4 s0 s1 s2 s3 s4
              obtain ⟨q0, q1, q2, q3, q4⟩ := cells5T HA6.out
              obtain ⟨r0, r1, r2, r3, r4⟩ := cells5T HB6.out
              obtain ⟨s0, s1, s2, s3, s4⟩ := cells5T HC6.out
              go_wp2
              go_ret
              exact ⟨rfl, HO6.out.none⟩
            | true =>
              have cc := progAssign (.slice at_ l.length ct) l a b _ HT5.out (by omega) HN.out NA.out
              rw [z1h] at cc
              unfold valT at cc
              have CC := Lib.hid cc
              clear cc
              go_wp2_with (fail)
              refine CC.out.mono ?_
              rintro e w6 ⟨rfl, ho6⟩
              clear CC
              have HO6 := Lib.hid (HO5.out.trans ho6 (fun _ h _ => h))
              have HA6 := Lib.hid (ho6.heap HA5.out (fun h => h))
              have HB6 := Lib.hid (ho6.heap HB5.out (fun h => h))
              have HC6 := Lib.hid (ho6.heap HC5.out (fun h => h))
              have HT6 := Lib.hid (HT5.out.only ho6)
              clear ho6 q0 q1 q2 q3 q4 r0 r1 r2 r3 r4 s0 s1 s2 s3 s4
              obtain ⟨q0, q1, q2, q3, q4⟩ := cells5T HA6.out
              obtain ⟨r0, r1, r2, r3, r4⟩ := cells5T HB6.out
              obtain ⟨s0, s1, s2, s3, s4⟩ := cells5T HC6.out
              cases z2h : assignZ l b c with
              | false =>
                have cc := progAssign (.slice at_ l.length ct) l b c _ HT6.out (by omega) HN.out NB.out
                rw [z2h] at cc
                unfold valT at cc
                have CC := Lib.hid cc
                clear cc
                go_wp2_with (fail)
                refine CC.out.mono ?_
                rintro e w7 ⟨rfl, ho7⟩
                clear CC
                have HO7 := Lib.hid (HO6.out.trans ho7 (fun _ h _ => h))
                have HA7 := Lib.hid (ho7.heap HA6.out (fun h => h))
                have HB7 := Lib.hid (ho7.heap HB6.out (fun h => h))
                have HC7 := Lib.hid (ho7.heap HC6.out (fun h => h))
                have HT7 := Lib.hid (HT6.out.only ho7)
                clear ho7 q0 q1 q2 q3 q4 r0 r1 r2 r3 r4 s0 s1 s2 s3 s4
                obtain ⟨q0, q1, q2, q3, q4⟩ := cells5T HA7.out
                obtain ⟨r0, r1, r2, r3, r4⟩ := cells5T HB7.out
                obtain ⟨s0, s1, s2, s3, s4⟩ := cells5T HC7.out
                go_wp2
                go_ret
                exact ⟨rfl, HO7.out.none⟩
              | true =>
                have hz3 : assignZ l a c = true := assignZ_on (HRT.out (by first | exact trivial | rfl)) Hka.out Hkb.out Hkc.out z1h z2h
                have cc := progAssign (.slice at_ l.length ct) l b c _ HT6.out (by omega) HN.out NB.out
                rw [z2h] at cc
                unfold valT at cc
                have CC := Lib.hid cc
                clear cc
                go_wp2_with (fail)
                refine CC.out.mono ?_
                rintro e w7 ⟨rfl, ho7⟩
                clear CC
                have HO7 := Lib.hid (HO6.out.trans ho7 (fun _ h _ => h))
                have HA7 := Lib.hid (ho7.heap HA6.out (fun h => h))
                have HB7 := Lib.hid (ho7.heap HB6.out (fun h => h))
                have HC7 := Lib.hid (ho7.heap HC6.out (fun h => h))
                have HT7 := Lib.hid (HT6.out.only ho7)
                clear ho7 q0 q1 q2 q3 q4 r0 r1 r2 r3 r4 s0 s1 s2 s3 s4
                obtain ⟨q0, q1, q2, q3, q4⟩ := cells5T HA7.out
                obtain ⟨r0, r1, r2, r3, r4⟩ := cells5T HB7.out
                obtain ⟨s0, s1, s2, s3, s4⟩ := cells5T HC7.out
                have cc := progAssign (.slice at_ l.length ct) l a c _ HT7.out (by omega) HN.out NA.out
                rw [hz3] at cc
                unfold valT at cc
                have CC := Lib.hid cc
                clear cc
                go_wp2_with (fail)
                refine CC.out.mono ?_
                rintro e w8 ⟨rfl, ho8⟩
                clear CC
                have HO8 := Lib.hid (HO7.out.trans ho8 (fun _ h _ => h))
                have HA8 := Lib.hid (ho8.heap HA7.out (fun h => h))
                have HB8 := Lib.hid (ho8.heap HB7.out (fun h => h))
                have HC8 := Lib.hid (ho8.heap HC7.out (fun h => h))
                have HT8 := Lib.hid (HT7.out.only ho8)
                clear ho8 q0 q1 q2 q3 q4 r0 r1 r2 r3 r4 s0 s1 s2 s3 s4
                obtain ⟨q0, q1, q2, q3, q4⟩ := cells5T HA8.out
                obtain ⟨r0, r1, r2, r3, r4⟩ := cells5T HB8.out
                obtain ⟨s0, s1, s2, s3, s4⟩ := cells5T HC8.out
                go_wp2
                go_ret
                exact ⟨rfl, HO8.out.none⟩
          · have kcb : (c.k != 4) = true := by rw [bne_iff_ne]; exact kc
            clear kc
            go_wp2_with (fail)
            refine (CA.out _).mono ?_
            rintro e w6 ⟨rfl, ho6⟩
            have HO6 := Lib.hid (HO5.out.trans ho6 (fun _ h _ => h))
            clear ho6
            go_wp2
            go_ret
            exact ⟨rfl, HO6.out.none⟩
        · have kbb : (b.k != 4) = true := by rw [bne_iff_ne]; exact kb
          clear kb
          go_wp2_with (fail)
          refine (CA.out _).mono ?_
          rintro e w6 ⟨rfl, ho6⟩
          have HO6 := Lib.hid (HO5.out.trans ho6 (fun _ h _ => h))
          clear ho6
          go_wp2
          go_ret
          exact ⟨rfl, HO6.out.none⟩
      · have kab : (a.k != 4) = true := by rw [bne_iff_ne]; exact ka
        clear ka
        go_wp2_with (fail)
        refine (CA.out _).mono ?_
        rintro e w6 ⟨rfl, ho6⟩
        have HO6 := Lib.hid (HO5.out.trans ho6 (fun _ h _ => h))
        clear ho6
        go_wp2
        go_ret
        exact ⟨rfl, HO6.out.none⟩
  · have k4b : (b.k == 4) = false := by rw [beq_eq_false_iff_ne]; exact k4
    by_cases k5 : b.k = 5
    · have k5b : (b.k == 5) = true := by rw [k5]; rfl
      have Hk5 := Lib.hid k5
      clear k5 k4
      have cc := progAssign (.slice at_ l.length ct) l ⟨3, ⟨#[]⟩, 0, 0, 0⟩ b _ HT3.out (by omega) HN.out NZ.out
      rw [assignZ_null l ⟨3, ⟨#[]⟩, 0, 0, 0⟩ b rfl (.inr Hk5.out)] at cc
      unfold valT at cc
      have CC := Lib.hid cc
      clear cc
      go_wp2_with (fail)
      refine CC.out.mono ?_
      rintro e w4 ⟨rfl, ho4⟩
      clear CC
      have HO4 := Lib.hid (HO3.out.trans ho4 (fun _ h _ => h))
      have HA4 := Lib.hid (ho4.heap HA3.out (fun h => h))
      have HB4 := Lib.hid (ho4.heap HB3.out (fun h => h))
      have HC4 := Lib.hid (ho4.heap HC3.out (fun h => h))
      have HT4 := Lib.hid (HT3.out.only ho4)
      clear ho4 q0 q1 q2 q3 q4 r0 r1 r2 r3 r4 s0 s1 s2 s3 s4
      obtain ⟨q0, q1, q2, q3, q4⟩ := cells5T HA4.out
      obtain ⟨r0, r1, r2, r3, r4⟩ := cells5T HB4.out
      obtain ⟨s0, s1, s2, s3, s4⟩ := cells5T HC4.out
      have cr := rooted_ _ l _ (HP.out.only HO4.out) (by omega)
      have CR := Lib.hid cr
      clear cr
      go_wp2_with (fail)
      refine CR.out.mono ?_
      rintro e w5 ⟨rt, rfl, hrt, ho5⟩
      have HRT := Lib.hid hrt
      clear hrt CR
      have HO5 := Lib.hid (HO4.out.trans ho5 (fun _ h _ => h))
      have HA5 := Lib.hid (ho5.heap HA4.out (fun h => h))
      have HB5 := Lib.hid (ho5.heap HB4.out (fun h => h))
      have HC5 := Lib.hid (ho5.heap HC4.out (fun h => h))
      have HT5 := Lib.hid (HT4.out.only ho5)
      clear ho5 q0 q1 q2 q3 q4 r0 r1 r2 r3 r4 s0 s1 s2 s3 s4
      obtain ⟨q0, q1, q2, q3, q4⟩ := cells5T HA5.out
      obtain ⟨r0, r1, r2, r3, r4⟩ := cells5T HB5.out
      obtain ⟨s0, s1, s2, s3, s4⟩ := cells5T HC5.out
      cases rt with
      | false =>
        go_wp2_with (fail)
        refine (CA.out _).mono ?_
        rintro e w6 ⟨rfl, ho6⟩
        have HO6 := Lib.hid (HO5.out.trans ho6 (fun _ h _ => h))
        clear ho6
        go_wp2
        go_ret
        exact ⟨rfl, HO6.out.none⟩
      | true =>
        by_cases ka : a.k = 4
        · have kab : (a.k != 4) = false := by rw [bne, ka]; rfl
          have Hka := Lib.hid ka
          clear ka
          by_cases kb : b.k = 4
          · have kbb : (b.k != 4) = false := by rw [bne, kb]; rfl
            have Hkb := Lib.hid kb
            clear kb
            by_cases kc : c.k = 4
            · have kcb : (c.k != 4) = false := by rw [bne, kc]; rfl
              have Hkc := Lib.hid kc
              clear kc
              cases z1h : assignZ l a b with
              | false =>
                have cc := progAssign (.slice at_ l.length ct) l a b _ HT5.out (by omega) HN.out NA.out
                rw [z1h] at cc
                unfold valT at cc
                have CC := Lib.hid cc
                clear cc
                go_wp2_with (fail)
                refine CC.out.mono ?_
                rintro e w6 ⟨rfl, ho6⟩
                clear CC
                have HO6 := Lib.hid (HO5.out.trans ho6 (fun _ h _ => h))
                have HA6 := Lib.hid (ho6.heap HA5.out (fun h => h))
                have HB6 := Lib.hid (ho6.heap HB5.out (fun h => h))
                have HC6 := Lib.hid (ho6.heap HC5.out (fun h => h))
                have HT6 := Lib.hid (HT5.out.only ho6)
                clear ho6 q0 q1 q2 q3 q4 r0 r1 r2 r3 r4 s0 s1 s2 s3 s4
                obtain ⟨q0, q1, q2, q3, q4⟩ := cells5T HA6.out
                obtain ⟨r0, r1, r2, r3, r4⟩ := cells5T HB6.out
                obtain ⟨s0, s1, s2, s3, s4⟩ := cells5T HC6.out
                go_wp2
                go_ret
                exact ⟨rfl, HO6.out.none⟩
              | true =>
                have cc := progAssign (.slice at_ l.length ct) l a b _ HT5.out (by omega) HN.out NA.out
                rw [z1h] at cc
                unfold valT at cc
                have CC := Lib.hid cc
                clear cc
                go_wp2_with (fail)
                refine CC.out.mono ?_
                rintro e w6 ⟨rfl, ho6⟩
                clear CC
                have HO6 := Lib.hid (HO5.out.trans ho6 (fun _ h _ => h))
                have HA6 := Lib.hid (ho6.heap HA5.out (fun h => h))
                have HB6 := Lib.hid (ho6.heap HB5.out (fun h => h))
                have HC6 := Lib.hid (ho6.heap HC5.out (fun h => h))
                have HT6 := Lib.hid (HT5.out.only ho6)
                clear ho6 q0 q1 q2 q3 q4 r0 r1 r2 r3 r4 s0 s1 s2 s3 s4
                obtain ⟨q0, q1, q2, q3, q4⟩ := cells5T HA6.out
                obtain ⟨r0, r1, r2, r3, r4⟩ := cells5T HB6.out
                obtain ⟨s0, s1, s2, s3, s4⟩ := cells5T HC6.out
                cases z2h : assignZ l b c with
                | false =>
                  have cc := progAssign (.slice at_ l.length ct) l b c _ HT6.out (by omega) HN.out NB.out
                  rw [z2h] at cc
                  unfold valT at cc
                  have CC := Lib.hid cc
                  clear cc
                  go_wp2_with (fail)
                  refine CC.out.mono ?_
                  rintro e w7 ⟨rfl, ho7⟩
                  clear CC
                  have HO7 := Lib.hid (HO6.out.trans ho7 (fun _ h _ => h))
                  have HA7 := Lib.hid (ho7.heap HA6.out (fun h => h))
                  have HB7 := Lib.hid (ho7.heap HB6.out (fun h => h))
                  have HC7 := Lib.hid (ho7.heap HC6.out (fun h => h))
                  have HT7 := Lib.hid (HT6.out.only ho7)
                  clear ho7 q0 q1 q2 q3 q4 r0 r1 r2 r3 r4 s0 s1 s2 s3 s4
                  obtain ⟨q0, q1, q2, q3, q4⟩ := cells5T HA7.out
                  obtain ⟨r0, r1, r2, r3, r4⟩ := cells5T HB7.out
                  obtain ⟨s0, s1, s2, s3, s4⟩ := cells5T HC7.out
                  go_wp2
                  go_ret
                  exact ⟨rfl, HO7.out.none⟩
                | true =>
                  have hz3 : assignZ l a c = true := assignZ_on (HRT.out (by first | exact trivial | rfl)) Hka.out Hkb.out Hkc.out z1h z2h
                  have cc := progAssign (.slice at_ l.length ct) l b c _ HT6.out (by omega) HN.out NB.out
                  rw [z2h] at cc
                  unfold valT at cc
                  have CC := Lib.hid cc
                  clear cc
                  go_wp2_with (fail)
                  refine CC.out.mono ?_
                  rintro e w7 ⟨rfl, ho7⟩
                  clear CC
                  have HO7 := Lib.hid (HO6.out.trans ho7 (fun _ h _ => h))
                  have HA7 := Lib.hid (ho7.heap HA6.out (fun h => h))
                  have HB7 := Lib.hid (ho7.heap HB6.out (fun h => h))
                  have HC7 := Lib.hid (ho7.heap HC6.out (fun h => h))
                  have HT7 := Lib.hid (HT6.out.only ho7)
                  clear ho7 q0 q1 q2 q3 q4 r0 r1 r2 r3 r4 s0 s1 s2 s3 s4
                  obtain ⟨q0, q1, q2, q3, q4⟩ := cells5T HA7.out
                  obtain ⟨r0, r1, r2, r3, r4⟩ := cells5T HB7.out
                  obtain ⟨s0, s1, s2, s3, s4⟩ := cells5T HC7.out
                  have cc := progAssign (.slice at_ l.length ct) l a c _ HT7.out (by omega) HN.out NA.out
                  rw [hz3] at cc
                  unfold valT at cc
                  have CC := Lib.hid cc
                  clear cc
                  go_wp2_with (fail)
                  refine CC.out.mono ?_
                  rintro e w8 ⟨rfl, ho8⟩
                  clear CC
                  have HO8 := Lib.hid (HO7.out.trans ho8 (fun _ h _ => h))
                  have HA8 := Lib.hid (ho8.heap HA7.out (fun h => h))
                  have HB8 := Lib.hid (ho8.heap HB7.out (fun h => h))
                  have HC8 := Lib.hid (ho8.heap HC7.out (fun h => h))
                  have HT8 := Lib.hid (HT7.out.only ho8)
                  clear ho8 q0 q1 q2 q3 q4 r0 r1 r2 r3 r4 s0 s1 s2 s3 s4
                  obtain ⟨q0, q1, q2, q3, q4⟩ := cells5T HA8.out
                  obtain ⟨r0, r1, r2, r3, r4⟩ := cells5T HB8.out
                  obtain ⟨s0, s1, s2, s3, s4⟩ := cells5T HC8.out
                  go_wp2
                  go_ret
                  exact ⟨rfl, HO8.out.none⟩
            · have kcb : (c.k != 4) = true := by rw [bne_iff_ne]; exact kc
              clear kc
              go_wp2_with (fail)
              refine (CA.out _).mono ?_
              rintro e w6 ⟨rfl, ho6⟩
              have HO6 := Lib.hid (HO5.out.trans ho6 (fun _ h _ => h))
              clear ho6
              go_wp2
              go_ret
              exact ⟨rfl, HO6.out.none⟩
          · have kbb : (b.k != 4) = true := by rw [bne_iff_ne]; exact kb
            clear kb
            go_wp2_with (fail)
            refine (CA.out _).mono ?_
            rintro e w6 ⟨rfl, ho6⟩
            have HO6 := Lib.hid (HO5.out.trans ho6 (fun _ h _ => h))
            clear ho6
            go_wp2
            go_ret
            exact ⟨rfl, HO6.out.none⟩
        · have kab : (a.k != 4) = true := by rw [bne_iff_ne]; exact ka
          clear ka
          go_wp2_with (fail)
          refine (CA.out _).mono ?_
          rintro e w6 ⟨rfl, ho6⟩
          have HO6 := Lib.hid (HO5.out.trans ho6 (fun _ h _ => h))
          clear ho6
          go_wp2
          go_ret
          exact ⟨rfl, HO6.out.none⟩
    · have k5b : (b.k == 5) = false := by rw [beq_eq_false_iff_ne]; exact k5
      clear k5 k4
      have cr := rooted_ _ l _ (HP.out.only HO3.out) (by omega)
      have CR := Lib.hid cr
      clear cr
      go_wp2_with (fail)
      refine CR.out.mono ?_
      rintro e w4 ⟨rt, rfl, hrt, ho4⟩
      have HRT := Lib.hid hrt
      clear hrt CR
      have HO4 := Lib.hid (HO3.out.trans ho4 (fun _ h _ => h))
      have HA4 := Lib.hid (ho4.heap HA3.out (fun h => h))
      have HB4 := Lib.hid (ho4.heap HB3.out (fun h => h))
      have HC4 := Lib.hid (ho4.heap HC3.out (fun h => h))
      have HT4 := Lib.hid (HT3.out.only ho4)
      clear ho4 q0 q1 q2 q3 q4 r0 r1 r2 r3 r4 s0 s1 s2 s3 s4
      obtain ⟨q0, q1, q2, q3, q4⟩ := cells5T HA4.out
      obtain ⟨r0, r1, r2, r3, r4⟩ := cells5T HB4.out
      obtain ⟨s0, s1, s2, s3, s4⟩ := cells5T HC4.out
      cases rt with
      | false =>
        go_wp2_with (fail)
        refine (CA.out _).mono ?_
        rintro e w5 ⟨rfl, ho5⟩
        have HO5 := Lib.hid (HO4.out.trans ho5 (fun _ h _ => h))
        clear ho5
        go_wp2
        go_ret
        exact ⟨rfl, HO5.out.none⟩
      | true =>
        by_cases ka : a.k = 4
        · have kab : (a.k != 4) = false := by rw [bne, ka]; rfl
          have Hka := Lib.hid ka
          clear ka
          by_cases kb : b.k = 4
          · have kbb : (b.k != 4) = false := by rw [bne, kb]; rfl
            have Hkb := Lib.hid kb
            clear kb
            by_cases kc : c.k = 4
            · have kcb : (c.k != 4) = false := by rw [bne, kc]; rfl
              have Hkc := Lib.hid kc
              clear kc
              cases z1h : assignZ l a b with
              | false =>
                have cc := progAssign (.slice at_ l.length ct) l a b _ HT4.out (by omega) HN.out NA.out
                rw [z1h] at cc
                unfold valT at cc
                have CC := Lib.hid cc
                clear cc
                go_wp2_with (fail)
                refine CC.out.mono ?_
                rintro e w5 ⟨rfl, ho5⟩
                clear CC
                have HO5 := Lib.hid (HO4.out.trans ho5 (fun _ h _ => h))
                have HA5 := Lib.hid (ho5.heap HA4.out (fun h => h))
                have HB5 := Lib.hid (ho5.heap HB4.out (fun h => h))
                have HC5 := Lib.hid (ho5.heap HC4.out (fun h => h))
                have HT5 := Lib.hid (HT4.out.only ho5)
                clear ho5 q0 q1 q2 q3 q4 r0 r1 r2 r3 r4 s0 s1 s2 s3 s4
                obtain ⟨q0, q1, q2, q3, q4⟩ := cells5T HA5.out
                obtain ⟨r0, r1, r2, r3, r4⟩ := cells5T HB5.out
                obtain ⟨s0, s1, s2, s3, s4⟩ := cells5T HC5.out
                go_wp2
                go_ret
                exact ⟨rfl, HO5.out.none⟩
              | true =>
                have cc := progAssign (.slice at_ l.length ct) l a b _ HT4.out (by omega) HN.out NA.out
                rw [z1h] at cc
                unfold valT at cc
                have CC := Lib.hid cc
                clear cc
                go_wp2_with (fail)
                refine CC.out.mono ?_
                rintro e w5 ⟨rfl, ho5⟩
                clear CC
                have HO5 := Lib.hid (HO4.out.trans ho5 (fun _ h _ => h))
                have HA5 := Lib.hid (ho5.heap HA4.out (fun h => h))
                have HB5 := Lib.hid (ho5.heap HB4.out (fun h => h))
                have HC5 := Lib.hid (ho5.heap HC4.out (fun h => h))
                have HT5 := Lib.hid (HT4.out.only ho5)
                clear ho5 q0 q1 q2 q3 q4 r0 r1 r2 r3 r4 s0 s1 s2 s3 s4
                obtain ⟨q0, q1, q2, q3, q4⟩ := cells5T HA5.out
                obtain ⟨r0, r1, r2, r3, r4⟩ := cells5T HB5.out
                obtain ⟨s0, s1, s2, s3, s4⟩ := cells5T HC5.out
                cases z2h : assignZ l b c with
                | false =>
                  have cc := progAssign (.slice at_ l.length ct) l b c _ HT5.out (by omega) HN.out NB.out
                  rw [z2h] at cc
                  unfold valT at cc
                  have CC := Lib.hid cc
                  clear cc
                  go_wp2_with (fail)
                  refine CC.out.mono ?_
                  rintro e w6 ⟨rfl, ho6⟩
                  clear CC
                  have HO6 := Lib.hid (HO5.out.trans ho6 (fun _ h _ => h))
                  have HA6 := Lib.hid (ho6.heap HA5.out (fun h => h))
                  have HB6 := Lib.hid (ho6.heap HB5.out (fun h => h))
                  have HC6 := Lib.hid (ho6.heap HC5.out (fun h => h))
                  have HT6 := Lib.hid (HT5.out.only ho6)
                  clear ho6 q0 q1 q2 q3 q4 r0 r1 r2 r3 r4 s0 s1 s2 s3 s4
                  obtain ⟨q0, q1, q2, q3, q4⟩ := cells5T HA6.out
                  obtain ⟨r0, r1, r2, r3, r4⟩ := cells5T HB6.out
                  obtain ⟨s0, s1, s2, s3, s4⟩ := cells5T HC6.out
                  go_wp2
                  go_ret
                  exact ⟨rfl, HO6.out.none⟩
                | true =>
                  have hz3 : assignZ l a c = true := assignZ_on (HRT.out (by first | exact trivial | rfl)) Hka.out Hkb.out Hkc.out z1h z2h
                  have cc := progAssign (.slice at_ l.length ct) l b c _ HT5.out (by omega) HN.out NB.out
                  rw [z2h] at cc
                  unfold valT at cc
                  have CC := Lib.hid cc
                  clear cc
                  go_wp2_with (fail)
                  refine CC.out.mono ?_
                  rintro e w6 ⟨rfl, ho6⟩
                  clear CC
                  have HO6 := Lib.hid (HO5.out.trans ho6 (fun _ h _ => h))
                  have HA6 := Lib.hid (ho6.heap HA5.out (fun h => h))
                  have HB6 := Lib.hid (ho6.heap HB5.out (fun h => h))
                  have HC6 := Lib.hid (ho6.heap HC5.out (fun h => h))
                  have HT6 := Lib.hid (HT5.out.only ho6)
                  clear ho6 q0 q1 q2 q3 q4 r0 r1 r2 r3 r4 s0 s1 s2 s3 s4
                  obtain ⟨q0, q1, q2, q3, q4⟩ := cells5T HA6.out
                  obtain ⟨r0, r1, r2, r3, r4⟩ := cells5T HB6.out
                  obtain ⟨s0, s1, s2, s3, s4⟩ := cells5T HC6.out
                  have cc := progAssign (.slice at_ l.length ct) l a c _ HT6.out (by omega) HN.out NA.out
                  rw [hz3] at cc
                  unfold valT at cc
                  have CC := Lib.hid cc
                  clear cc
                  go_wp2_with (fail)
                  refine CC.out.mono ?_
                  rintro e w7 ⟨rfl, ho7⟩
                  clear CC
                  have HO7 := Lib.hid (HO6.out.trans ho7 (fun _ h _ => h))
                  have HA7 := Lib.hid (ho7.heap HA6.out (fun h => h))
                  have HB7 := Lib.hid (ho7.heap HB6.out (fun h => h))
                  have HC7 := Lib.hid (ho7.heap HC6.out (fun h => h))
                  have HT7 := Lib.hid (HT6.out.only ho7)
                  clear ho7 q0 q1 q2 q3 q4 r0 r1 r2 r3 r4 s0 s1 s2 s3 s4
                  obtain ⟨q0, q1, q2, q3, q4⟩ := cells5T HA7.out
                  obtain ⟨r0, r1, r2, r3, r4⟩ := cells5T HB7.out
                  obtain ⟨s0, s1, s2, s3, s4⟩ := cells5T HC7.out
                  go_wp2
                  go_ret
                  exact ⟨rfl, HO7.out.none⟩
            · have kcb : (c.k != 4) = true := by rw [bne_iff_ne]; exact kc
              clear kc
              go_wp2_with (fail)
              refine (CA.out _).mono ?_
              rintro e w5 ⟨rfl, ho5⟩
              have HO5 := Lib.hid (HO4.out.trans ho5 (fun _ h _ => h))
              clear ho5
              go_wp2
              go_ret
              exact ⟨rfl, HO5.out.none⟩
          · have kbb : (b.k != 4) = true := by rw [bne_iff_ne]; exact kb
            clear kb
            go_wp2_with (fail)
            refine (CA.out _).mono ?_
            rintro e w5 ⟨rfl, ho5⟩
            have HO5 := Lib.hid (HO4.out.trans ho5 (fun _ h _ => h))
            clear ho5
            go_wp2
            go_ret
            exact ⟨rfl, HO5.out.none⟩
        · have kab : (a.k != 4) = true := by rw [bne_iff_ne]; exact ka
          clear ka
          go_wp2_with (fail)
          refine (CA.out _).mono ?_
          rintro e w5 ⟨rfl, ho5⟩
          have HO5 := Lib.hid (HO4.out.trans ho5 (fun _ h _ => h))
          clear ho5
          go_wp2
          go_ret
          exact ⟨rfl, HO5.out.none⟩

theorem own : ownKnob Try.prog.godebug = none := by kernel_rfl
theorem laidOut : laidOutB Try.prog = true := by kernel_rfl

set_option maxRecDepth 100000 in
theorem lifted (os : Os) (started : os.Started) (H : Type) (enc : TypeId × Value → H) :
    ReturnsInHanded {} Try.checked os 9 .any (Rows.kindGoesSpec.pre6 enc Try.prog Try.f9 Rows.kindGoesRow.domain false) (Rows.kindGoesSpec.post enc Try.prog Try.f9 false true false false) := by
  refine returnsInHanded_of_change_sized (C := Try.checked) own started (by kernel_rfl) Try.func9
    (ChangeSpec.witness6 (enc := enc) (C := Try.checked) false ⟨#[], #[.slice none 0 0, .agg #[.int .i64 0, .string ⟨#[]⟩, .int .i64 0, .int .i64 0, .int .i64 0], .agg #[.int .i64 0, .string ⟨#[]⟩, .int .i64 0, .int .i64 0, .int .i64 0], .agg #[.int .i64 0, .string ⟨#[]⟩, .int .i64 0, .int .i64 0, .int .i64 0]], []⟩ 8 (by kernel_rfl) (by kernel_rfl) (by kernel_rfl) (by kernel_rfl)) ?_
  intro W base args ds gs before hval0 hW hcnd hsz0 _
  have hsz : (DataW.weightsEach Try.prog (Try.f9.params.toList ++ Rows.kindGoesSpec.plain.varTypes Try.prog) (ds ++ gs)).all (· ≤ reachBytes) = true := hsz0
  clear hsz0
  have hval : ∀ (j : Nat) t v, Try.f9.params[j]? = some t → args[j]? = some v → Value.okWide Try.prog W .any base t v := hval0
  have hW' := hW
  obtain ⟨p, q, hA0, hV, rfl, hfz, hnd⟩ := hW
  have hA : DataW.TrodAll enc Try.prog W 0 (fun _ => true) true Try.f9.params.toList args.toList ds p := hA0
  rw [Try.params9] at hA hval hsz
  obtain ⟨v0, vs0, d0, ds0, p0, q0, hargs, rfl, rfl, h0, r0⟩ := trodAll_cons hA
  obtain ⟨v1, vs1, d1, ds1, p1, q1, rfl, rfl, rfl, h1, r1⟩ := trodAll_cons r0
  obtain ⟨v2, vs2, d2, ds2, p2, q2, rfl, rfl, rfl, h2, r2⟩ := trodAll_cons r1
  obtain ⟨v3, vs3, d3, ds3, p3, q3, rfl, rfl, rfl, h3, r3⟩ := trodAll_cons r2
  obtain ⟨rfl, rfl, rfl⟩ := trodAll_nil r3
  obtain rfl : args = #[v0, v1, v2, v3] := by cases args; simp_all
  obtain ⟨rfl, rfl⟩ := trodVars_none hV
  have k0 := h0
  have lt0 : ∀ x ∈ p0, x.block < W.heap.size := by obtain ⟨m, hm⟩ := k0; exact DataW.trod_lt m _ _ _ hm
  have w0 := arg_pairs (hval 0 41 v0 rfl rfl) h0 (light_arg (j := 0) hsz rfl rfl)
  have k1 := h1
  have lt1 : ∀ x ∈ p1, x.block < W.heap.size := by obtain ⟨m, hm⟩ := k1; exact DataW.trod_lt m _ _ _ hm
  have w1 := arg_type8 (hval 1 23 v1 rfl rfl) h1 (light_arg (j := 1) hsz rfl rfl)
  have k2 := h2
  have lt2 : ∀ x ∈ p2, x.block < W.heap.size := by obtain ⟨m, hm⟩ := k2; exact DataW.trod_lt m _ _ _ hm
  have w2 := arg_type8 (hval 2 23 v2 rfl rfl) h2 (light_arg (j := 2) hsz rfl rfl)
  have k3 := h3
  have lt3 : ∀ x ∈ p3, x.block < W.heap.size := by obtain ⟨m, hm⟩ := k3; exact DataW.trod_lt m _ _ _ hm
  have w3 := arg_type8 (hval 3 23 v3 rfl rfl) h3 (light_arg (j := 3) hsz rfl rfl)
  clear hA0 hval0
  refine (walk v0 v1 v2 v3 W w0 w1 w2 w3).mono fun e W' ⟨he, bel⟩ => ?_
  subst he
  exact ⟨_, rfl, _, _, _, [], _, [], hW', trodAll_mk1 (shut_bool Try.underlying4 _), (trodAll_cons_mk (Below.trod laidOut (by kernel_rfl) (of_decide_eq_true (by kernel_rfl)) k0 bel lt0) (trodAll_cons_mk (Below.trod laidOut (by kernel_rfl) (of_decide_eq_true (by kernel_rfl)) k1 bel lt1) (trodAll_cons_mk (Below.trod laidOut (by kernel_rfl) (of_decide_eq_true (by kernel_rfl)) k2 bel lt2) (trodAll_cons_mk (Below.trod laidOut (by kernel_rfl) (of_decide_eq_true (by kernel_rfl)) k3 bel lt3) trodAll_mk0)))), rfl, bel.frame _, fun h => by cases h⟩

theorem over : Rows.kindGoesRow.holds Try.pinned (OpenSpec.ofChange Rows.kindGoesSpec) :=
  OpenClaim.holds_of_wide 9 Try.f9 rfl rfl rfl rfl rfl rfl rfl ⟨rfl, rfl, rfl, rfl, rfl⟩ rfl rfl rfl rfl rfl (by kernel_rfl) Try.func9 (by kernel_rfl)
    (of_decide_eq_true (by kernel_rfl)) (by unfold Func.isWrapper; first | (rw [if_pos (by decide +kernel)]; kernel_rfl) | (rw [if_neg (by decide +kernel)]; exact ⟨rfl, rfl⟩))
    (fun os started H enc _ => lifted os started H enc)

theorem proved : Rows.KindGoesSaid := over
#print axioms proved
end Go.Proofs.Ytcmceabkadgfiaa.kindGoes
