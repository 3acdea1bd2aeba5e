/-
  Chapter 6: what stays in demand, by the model: KeepsDemand.
-/
import Derived.Test.YtfjncipekjnbjaaJe
import Derived.Test.YtfjncipekjnbjaaJk
import Derived.ChangeKeysEq
import Derived.Test.YtfjncipekjnbjaaJm
import Derived.WalkMore
import Derived.Deep.RegionLaw
import Derived.Deep.RegionHeld3
import Derived.Deep.LoopGhost
namespace Go.Proofs.Ytfjncipekjnbjaa
open Go.RowKit

/-- All of the things of s that are in m are in y. -/
def covB (m : Nat) (s y : Int) : Bool := ((s.toNat &&& m) - (s.toNat &&& m &&& y.toNat)) == 0
def anyTo (m : Nat) (s : Int) (L : List Int) (k : Nat) : Bool := (L.take k).any (covB m s)
def allTo (m : Nat) (L O : List Int) (k : Nat) : Bool := (O.take k).all (fun s => L.any (covB m s))
theorem anyTo_zero (m : Nat) (s : Int) (L : List Int) : anyTo m s L 0 = false := by simp [anyTo]
theorem anyTo_step {m : Nat} {s y : Int} {L : List Int} {k : Nat} (h : L[k]? = some y) : anyTo m s L (k + 1) = (anyTo m s L k || covB m s y) := by
  unfold anyTo; rw [List.take_add_one, h, List.any_append]; simp
theorem anyTo_all (m : Nat) (s : Int) (L : List Int) : anyTo m s L L.length = L.any (covB m s) := by unfold anyTo; rw [List.take_length]
theorem allTo_zero (m : Nat) (L O : List Int) : allTo m L O 0 = true := by simp [allTo]
theorem allTo_step {m : Nat} {s : Int} {L O : List Int} {k : Nat} (h : O[k]? = some s) : allTo m L O (k + 1) = (allTo m L O k && L.any (covB m s)) := by
  unfold allTo; rw [List.take_add_one, h, List.all_append]; simp
theorem allTo_no {m : Nat} {s : Int} {L O : List Int} {k : Nat} (h : O[k]? = some s) (hn : L.any (covB m s) = false) : allTo m L O O.length = false := by
  unfold allTo; rw [List.take_length, List.all_eq_false]
  exact ⟨s, List.mem_of_getElem? h, by simp [hn]⟩
/-- That is what is kept. -/
theorem kd_all {t p q : List Int} : allTo (sm p q) (dm t q) (dm t p) (dm t p).length = true ↔ Kd t p q := by
  unfold allTo
  rw [List.take_length, List.all_eq_true]
  constructor
  · intro h s hs hd
    have := h (s : Int) (dm_mem.2 ⟨s, rfl, hs, hd⟩)
    rw [List.any_eq_true] at this
    obtain ⟨y, hy, hc⟩ := this
    obtain ⟨x, rfl, hx, hxd⟩ := dm_mem.1 hy
    exact ⟨x, hx, hxd, by simpa [covB] using hc⟩
  · intro h y hy
    obtain ⟨s, rfl, hs, hd⟩ := dm_mem.1 hy
    obtain ⟨x, hx, hxd, hc⟩ := h s hs hd
    rw [List.any_eq_true]
    exact ⟨(x : Int), dm_mem.2 ⟨x, rfl, hx, hxd⟩, by simp [covB, hc]⟩
theorem dm_at {t p : List Int} {k : Nat} {x : Int} (h : (dm t p)[k]? = some x) : ∃ s : Nat, x = (s : Int) ∧ s < 8 := by
  obtain ⟨s, h1, h2, _⟩ := dm_mem.1 (List.mem_of_getElem? h)
  exact ⟨s, h1, h2⟩
theorem cov_bits {s m y : Nat} (hs : s < 8) (hm : m < 8) (hy : y < 8) : bits .and .i64 (s : Int) (m : Int) = ((s &&& m : Nat) : Int) ∧ bits .andNot .i64 ((s &&& m : Nat) : Int) (y : Int) = (((s &&& m) - (s &&& m &&& y) : Nat) : Int) :=
  ⟨and_nat hs hm, andNot_nat (Nat.lt_of_le_of_lt Nat.and_le_left hs) hy⟩
theorem covB_eq (m s y : Nat) : covB m (s : Int) (y : Int) = (((((s &&& m) - (s &&& m &&& y) : Nat) : Int)) == 0) := by
  unfold covB
  simp only [Int.toNat_natCast]
  rw [Bool.eq_iff_iff]
  simp
/-- None of the first k prices is less. -/
def UpTo (p q : List Int) (k : Nat) : Prop := ∀ i, i < k → T p i ≤ T q i
theorem UpTo.zero (p q : List Int) : UpTo p q 0 := fun i h => absurd h (by omega)
theorem UpTo.next {p q : List Int} {k : Nat} (h : UpTo p q k) (hk : T p k ≤ T q k) : UpTo p q (k + 1) := fun i hi => by
  rcases Nat.lt_or_ge i k with h1 | h1
  · exact h i h1
  · rw [show i = k by omega]; exact hk
theorem smTo_yes {p q : List Int} {k : Nat} (h : T p k = T q k) : smTo p q (k + 1) = smTo p q k + 2 ^ k := by simp [smTo, h]
theorem smTo_no {p q : List Int} {k : Nat} (h : ¬ T p k = T q k) : smTo p q (k + 1) = smTo p q k := by simp [smTo, h]

set_option maxRecDepth 100000 in
set_option maxHeartbeats 1600000 in
theorem SKeepsDemand_yes (A B C : Option Addr) (c d f : Nat) (t p q : List Int) (w : World) (h : Rd w A c t) (g : Rd w B d p) (r : Rd w C f q) (hv : VT t) (hp : VP p) (hq : VP q) :
    Calls Try.prog 35 #[.slice A t.length c, .slice B p.length d, .slice C q.length f] w fun e w' => e = .returned (.bool (kdB t p q)) ∧ Below w.heap.size w w' := by
  have HV := Lib.hid (SvalidTable_any A c t w h (by rw [hv.1]; omega))
  have HP := Lib.hid (fun w1 (g : Rd w1 B d p) => SvalidPrices_any B d p w1 g (by rw [hp.1]; omega))
  have HQ := Lib.hid (fun w1 (g : Rd w1 C f q) => SvalidPrices_any C f q w1 g (by rw [hq.1]; omega))
  rw [vt_true hv] at HV
  rw [vp_true hp] at HP
  rw [vp_true hq] at HQ
  have HD1 := Lib.hid (fun w1 (h : Rd w1 A c t) (g : Rd w1 B d p) => Sdemand_any A B c d t p w1 h g hv hp)
  have HD2 := Lib.hid (fun w1 (h : Rd w1 A c t) (g : Rd w1 C f q) => Sdemand_any A C c f t q w1 h g hv hq)
  have h3 := hp.1
  have q3 := hq.1
  have HNU := Lib.hid (fun (k : Nat) (hk : k < 3) (hn : T q k < T p k) => kdB_false (t := t) (p := p) (q := q) (fun hh => by have := hh.2.2.2.1 k hk; omega))
  have HYE := Lib.hid (fun (hu : UpTo p q 3) (ha : allTo (sm p q) (dm t q) (dm t p) (dm t p).length = true) => kdB_true (t := t) (p := p) (q := q) ⟨hv, hp, hq, hu, kd_all.1 ha⟩)
  have HNO := Lib.hid (fun (ha : allTo (sm p q) (dm t q) (dm t p) (dm t p).length = false) => kdB_false (t := t) (p := p) (q := q) (fun hh => by rw [kd_all.2 hh.2.2.2.2] at ha; cases ha))
  have HSM := Lib.hid (fun k (hk : k ≤ 3) => smTo_lt p q k)
  rw [hv.1] at HV HD1 HD2 ⊢
  rw [h3] at HP HD1 ⊢
  rw [q3] at HQ HD2 ⊢
  clear hv hp hq
  go_enter Try.func35, Try.ntmps35
  go_wp2_with fail
  refine HV.out.mono ?_
  rintro e w1 ⟨rfl, n1, rfl⟩
  go_wp2_with fail
  refine (HP.out _ (g.drewN _)).mono ?_
  rintro e w1 ⟨rfl, n2, rfl⟩
  go_wp2_with fail
  refine (HQ.out _ (r.drewN _)).mono ?_
  rintro e w1 ⟨rfl, n3, rfl⟩
  go_wp2_with fail
  clear HV HP HQ
  obtain ⟨n0, hn0⟩ : ∃ n0, n0 = n1 + n2 + n3 := ⟨_, rfl⟩
  rw [← hn0]
  clear hn0
  go_loopw [7, 8] (fun sv jv wr => ∃ k n : Nat, k ≤ 3 ∧ sv = .int .i64 ((smTo p q k : Nat) : Int) ∧ jv = .int .i64 (k : Int) ∧ wr = w.drewN n ∧ Hid (UpTo p q k)) (fun _ jv _ => 3 - (intOf jv).toNat)
  case atStart => exact ⟨0, n0, by omega, rfl, rfl, rfl, Lib.hid (UpTo.zero p q)⟩
  case round =>
    obtain ⟨k, n, hk, rfl, rfl, rfl, HU⟩ := hrel
    by_cases hlt : k < 3
    · obtain ⟨b1, off1, x, rfl, _, hx, hcx⟩ := g.at_ (k := k) (by omega)
      obtain ⟨b2, off2, y, rfl, _, hy, hcy⟩ := r.at_ (k := k) (by omega)
      have hTx := T_of hx.out
      have hTy := T_of hy.out
      have hk3 : (k : Int) < 3 := by omega
      have hk0 : (0 : Int) ≤ (k : Int) := by omega
      have hk1 : k + 1 ≤ 3 := hlt
      have HN1 := Lib.hid (fun (hh : y < x) => HNU.out k hlt (by rw [hTx, hTy]; exact hh))
      have HU1 := Lib.hid (fun (hh : ¬ y < x) => HU.out.next (by rw [hTx, hTy]; omega))
      have HS1 := Lib.hid (fun (hh : y = x) => smTo_yes (p := p) (q := q) (k := k) (by rw [hTx, hTy, hh]))
      have HS2 := Lib.hid (fun (hh : ¬ y = x) => smTo_no (p := p) (q := q) (k := k) (by rw [hTx, hTy]; exact fun e => hh e.symm))
      have hsm := HSM.out k (by omega)
      have hpw : 2 ^ k ≤ 4 := by rcases nat3 hlt with rfl | rfl | rfl <;> decide
      have HPW := Lib.hid (fun w1 => Spower_any k (by omega) w1)
      obtain ⟨S, hS⟩ : ∃ S, S = smTo p q k := ⟨_, rfl⟩
      obtain ⟨P, hP⟩ : ∃ P, P = 2 ^ k := ⟨_, rfl⟩
      rw [← hS] at HS1 HS2 hsm ⊢
      rw [← hP] at HS1 hsm hpw HPW
      have hS8 : S < 4 := by omega
      clear hS hP hx hy hTx hTy hlt HU hsm
      by_cases h1 : y < x
      · have HE := Lib.hid (HN1.out h1)
        clear HN1 HU1 HS1 HS2 HPW
        go_wp2_with fail
        go_quiet (fail)
        go_wp2
        go_ret
        exact ⟨by rw [HE.out]; rfl, by repeat (first | exact Below.refl _ _ | refine below_drewN' ?_ _)⟩
      · have HU' := Lib.hid (HU1.out h1)
        by_cases h2 : y = x
        · have HS' := Lib.hid (HS1.out h2)
          have hq2 : (y == x) = true := by simp [h2]
          have ew : IntKind.i64.wrap ((S : Int) + (P : Int)) = ((S + P : Nat) : Int) := by rw [IntWalk.i64_in _ (by omega)]; omega
          clear HN1 HU1 HS1 HS2 h2
          go_wp2_with fail
          go_quiet (fail)
          go_wp2_with fail
          go_quiet (fail)
          go_wp2_with fail
          refine (HPW.out _).mono ?_
          rintro e w5 ⟨rfl, rfl⟩
          go_wp2
          go_roundw
          case rel => exact ⟨k + 1, _, hk1, by rw [HS'.out]; go_num, by go_num, rfl, HU'⟩
          case measure => simp [intOf]; omega
        · have HS' := Lib.hid (HS2.out h2)
          have hq2 : (y == x) = false := by simp [h2]
          clear HN1 HU1 HS1 HS2 h2 HPW
          go_wp2_with fail
          go_quiet (fail)
          go_wp2_with fail
          go_quiet (fail)
          go_wp2
          go_roundw
          case rel => exact ⟨k + 1, _, hk1, by rw [HS'.out], by go_num, rfl, HU'⟩
          case measure => simp [intOf]; omega
    · obtain rfl : k = 3 := by omega
      have HYE' := Lib.hid (fun ha => HYE.out HU.out ha)
      have hM8 : smTo p q 3 < 8 := smTo_lt p q 3
      have HL8 := Lib.hid (fun (k : Nat) (x : Int) (h : (dm t q)[k]? = some x) => dm_at h)
      have HO8 := Lib.hid (fun (k : Nat) (x : Int) (h : (dm t p)[k]? = some x) => dm_at h)
      have hol := dm_len t p
      have hll := dm_len t q
      have HNO' : Hid (allTo (smTo p q 3) (dm t q) (dm t p) (dm t p).length = false → kdB t p q = false) := HNO
      have HYE2 : Hid (allTo (smTo p q 3) (dm t q) (dm t p) (dm t p).length = true → kdB t p q = true) := HYE'
      obtain ⟨M, hM⟩ : ∃ M, M = smTo p q 3 := ⟨_, rfl⟩
      rw [← hM] at HNO' HYE2 hM8 ⊢
      obtain ⟨O, hO⟩ : ∃ O, O = dm t p := ⟨_, rfl⟩
      obtain ⟨L, hL⟩ : ∃ L, L = dm t q := ⟨_, rfl⟩
      rw [← hO] at HNO' HYE2 HO8 HD1 hol
      rw [← hL] at HNO' HYE2 HL8 HD2 hll
      clear hM hO hL HYE HYE' HNO HNU HSM HU
      go_wp2_with fail
      refine (HD1.out _ (h.drewN n) (g.drewN n)).mono ?_
      rintro e w5 ⟨A5, c5, rfl, o5, b5⟩
      go_wp2_with fail
      refine (HD2.out _ ((h.drewN n).below b5) ((r.drewN n).below b5)).mono ?_
      rintro e w6 ⟨A6, c6, rfl, o6, b6⟩
      have BM := below_then (below_then (below_drewN' (Below.refl _ w) n) b5) b6
      have RO := Lib.hid ((o5.below b6).rd)
      have RL := Lib.hid o6.rd
      clear HD1 HD2 o5 o6 b5 b6 h g r
      go_wp2_with fail
      go_loopw [11] (fun iv wr => ∃ a n : Nat, a ≤ O.length ∧ iv = .int .i64 (a : Int) ∧ wr = w6.drewN n ∧ Hid (allTo M L O a = true)) (fun iv _ => O.length - (intOf iv).toNat)
      case atStart => exact ⟨0, 0, by omega, rfl, rfl, Lib.hid (allTo_zero M L O)⟩
      case round =>
        obtain ⟨a, n4, ha, rfl, rfl, HA⟩ := hrel
        by_cases hlt : a < O.length
        · obtain ⟨b1, off1, x, rfl, _, hx, hcx⟩ := RO.out.at_ hlt
          obtain ⟨s, rfl, hs8⟩ := HO8.out a x hx.out
          have ha1 : a + 1 ≤ O.length := hlt
          have HST := Lib.hid (allTo_step (m := M) (L := L) hx.out)
          have HNX := Lib.hid (fun hn => HNO'.out (allTo_no (m := M) (L := L) hx.out hn))
          have hlt' : (a : Int) < (O.length : Int) := by omega
          clear hx hlt
          go_wp2_with fail
          go_loopw [12, 13] (fun fv iv wr => ∃ b n : Nat, b ≤ L.length ∧ fv = .bool (anyTo M (s : Int) L b) ∧ iv = .int .i64 (b : Int) ∧ wr = w6.drewN n) (fun _ iv _ => L.length - (intOf iv).toNat)
          case atStart => exact ⟨0, n4, by omega, by rw [anyTo_zero], rfl, rfl⟩
          case round =>
            obtain ⟨b, n5, hb, rfl, rfl, rfl⟩ := hrel
            by_cases hlt : b < L.length
            · obtain ⟨b2, off2, y, rfl, _, hy, hcy⟩ := RL.out.at_ hlt
              obtain ⟨z, rfl, hz8⟩ := HL8.out b y hy.out
              have hb1 : b + 1 ≤ L.length := hlt
              have hbl : (b : Int) < (L.length : Int) := by omega
              obtain ⟨e1, e2⟩ := cov_bits hs8 hM8 hz8
              have HAN := Lib.hid (anyTo_step (m := M) (s := (s : Int)) hy.out)
              have hce := covB_eq M s z
              clear hy hlt
              rcases hF : anyTo M (s : Int) L b with _ | _
              · have HAN' : Hid (anyTo M (s : Int) L (b + 1) = ((((s &&& M) - (s &&& M &&& z) : Nat) : Int) == 0)) := Lib.hid (by rw [HAN.out, hF, hce]; rfl)
                obtain ⟨X, hX⟩ : ∃ X, X = s &&& M := ⟨_, rfl⟩
                rw [← hX] at e1 e2 HAN'
                obtain ⟨Y, hY⟩ : ∃ Y, Y = X - (X &&& z) := ⟨_, rfl⟩
                rw [← hY] at e2 HAN'
                clear hX hY hF hce HAN
                go_wp2_with fail
                go_quiet (fail)
                go_wp2
                go_roundw
                case rel => exact ⟨b + 1, _, hb1, by rw [HAN'.out], by go_num, rfl⟩
                case measure => simp [intOf]; omega
              · have HAN' : Hid (anyTo M (s : Int) L (b + 1) = true) := Lib.hid (by rw [HAN.out, hF]; rfl)
                clear hF hce HAN
                go_wp2_with fail
                go_quiet (fail)
                go_wp2
                go_roundw
                case rel => exact ⟨b + 1, _, hb1, by rw [HAN'.out], by go_num, rfl⟩
                case measure => simp [intOf]; omega
            · obtain rfl : b = L.length := by omega
              rcases hF : anyTo M (s : Int) L L.length with _ | _
              · have HE := Lib.hid (HNX.out (by rw [← anyTo_all]; exact hF))
                clear hF
                go_wp2
                go_ret
                exact ⟨by rw [HE.out]; rfl, by repeat (first | exact BM | refine below_drewN' ?_ _)⟩
              · have HE : Hid (allTo M L O (a + 1) = true) := Lib.hid (by rw [HST.out, HA.out, ← anyTo_all, hF]; rfl)
                clear hF
                go_wp2
                go_roundw
                case rel => exact ⟨a + 1, _, ha1, by go_num, rfl, HE⟩
                case measure => simp [intOf]; omega
        · obtain rfl : a = O.length := by omega
          have HE := Lib.hid (HYE2.out HA.out)
          go_wp2
          go_ret
          exact ⟨by rw [HE.out]; rfl, below_drewN' BM n4⟩

end Go.Proofs.Ytfjncipekjnbjaa

/-
  Chapter 6: the program's dearerOf and sameIn.
-/
namespace Go.Proofs.Ytfjncipekjnbjaa
open Go.RowKit

/-- The greater prices of the first k things, the others as they were. -/
def mxP (p q : List Int) (k : Nat) : List Int := (List.range 3).map (fun i => if i < k then (if T p i < T q i then T q i else T p i) else T p i)
theorem mxP_len (p q : List Int) (k : Nat) : (mxP p q k).length = 3 := by simp [mxP]
theorem mxP_at (p q : List Int) (k : Nat) {i : Nat} (hi : i < 3) : T (mxP p q k) i = if i < k then (if T p i < T q i then T q i else T p i) else T p i := by
  apply T_of
  simp [mxP, hi]
theorem ext3 {l m : List Int} (hl : l.length = 3) (hm : m.length = 3) (h : ∀ x, x < 3 → T l x = T m x) : l = m := by
  apply List.ext_getElem (by omega)
  intro i h1 h2
  have := h i (by omega)
  rw [T_of (List.getElem?_eq_getElem h1), T_of (List.getElem?_eq_getElem h2)] at this
  exact this
theorem mxP_zero {p : List Int} (q : List Int) (hp : p.length = 3) : mxP p q 0 = p := ext3 (mxP_len _ _ _) hp (fun x hx => by rw [mxP_at _ _ _ hx, if_neg (by omega)])
theorem mxP_step (p q : List Int) {k : Nat} (hk : k < 3) : mxP p q (k + 1) = (mxP p q k).set k (if T p k < T q k then T q k else T p k) := ext3 (mxP_len _ _ _) (by rw [List.length_set]; exact mxP_len _ _ _) (fun x hx => by
  rw [T_set (by rw [mxP_len]; exact hk), mxP_at _ _ _ hx, mxP_at _ _ _ hx]
  by_cases h1 : k = x
  · subst h1; rw [if_pos (by omega), if_pos rfl]
  · rw [if_neg h1]
    by_cases h2 : x < k
    · rw [if_pos (by omega), if_pos h2]
    · rw [if_neg (by omega), if_neg h2])
theorem mxP_end (p q : List Int) {i : Nat} (hi : i < 3) : T (mxP p q 3) i = if T p i < T q i then T q i else T p i := by rw [mxP_at _ _ _ hi, if_pos hi]
theorem Pr3.free {w : World} {m : Nat} {l : List Int} (h : Pr3 w m l) (k : Nat) : w.frozen? ⟨m, k, none⟩ = false := by
  unfold World.frozen?
  rw [show w.heap[m]? = _ from h]
  rfl
theorem Pr3.set_ {w : World} {m k : Nat} {l : List Int} (h : Pr3 w m l) (hl : l.length = 3) (hk : k < 3) (x : Int) : Pr3 (w.setCell ⟨m, k, none⟩ (.int .i64 x)) m (l.set k x) := by
  unfold Pr3 at h ⊢
  simp only [World.setCell, Array.getElem?_modify, if_true, h]
  rw [T_set (by omega), T_set (by omega), T_set (by omega)]
  rcases nat3 hk with rfl | rfl | rfl <;> simp
theorem idx3 (l : List Int) {k : Nat} (hk : k < 3) (w : World) : (Instr.index 68 (.agg #[.int .i64 (T l 0), .int .i64 (T l 1), .int .i64 (T l 2)]) (.int .i64 (k : Int))).run Try.prog w = .ok (.int .i64 (T l k)) w := by
  rcases nat3 hk with rfl | rfl | rfl <;> kernel_rfl

set_option maxRecDepth 100000 in
set_option maxHeartbeats 800000 in
theorem sameIn_any (p q : List Int) (w : World) :
    Calls Try.prog 91 #[ag3 p, ag3 q] w fun e w' => e = .returned (.int .i64 ((sm p q : Nat) : Int)) ∧ Below w.heap.size w w' := by
  unfold ag3
  have HI := Lib.hid (fun (k : Nat) (hk : k < 3) w1 => idx3 p hk w1)
  have h1 : Pr3 ((w.alloc (.cells #[.int .i64 (T p 0), .int .i64 (T p 1), .int .i64 (T p 2)] 68)).alloc (.cells #[.int .i64 (T q 0), .int .i64 (T q 1), .int .i64 (T q 2)] 68)) (w.heap.size + 1) q := by
    have := Pr3.new (w.alloc (.cells #[.int .i64 (T p 0), .int .i64 (T p 1), .int .i64 (T p 2)] 68)) q
    simpa using this
  have BM : Below w.heap.size w ((w.alloc (.cells #[.int .i64 (T p 0), .int .i64 (T p 1), .int .i64 (T p 2)] 68)).alloc (.cells #[.int .i64 (T q 0), .int .i64 (T q 1), .int .i64 (T q 2)] 68)) := ((Below.refl _ w).alloc (Nat.le_refl _) _).alloc (by simp) _
  have HSM := Lib.hid (fun k (hk : k ≤ 3) => smTo_lt p q k)
  obtain ⟨wT, hwT⟩ : ∃ wT, wT = ((w.alloc (.cells #[.int .i64 (T p 0), .int .i64 (T p 1), .int .i64 (T p 2)] 68)).alloc (.cells #[.int .i64 (T q 0), .int .i64 (T q 1), .int .i64 (T q 2)] 68)) := ⟨_, rfl⟩
  have HWT := Lib.hid hwT
  rw [← hwT] at h1 BM
  clear hwT
  have HQ := Lib.hid h1
  clear h1
  go_enter Try.func91, Try.ntmps91
  go_wp2
  rw [← HWT.out]
  go_loopw [5, 9] (fun sv iv wr => ∃ k n : Nat, k ≤ 3 ∧ sv = .int .i64 ((smTo p q k : Nat) : Int) ∧ iv = .int .i64 (k : Int) ∧ wr = wT.drewN n) (fun _ iv _ => 3 - (intOf iv).toNat)
  case atStart => exact ⟨0, 0, by omega, rfl, rfl, rfl⟩
  case round =>
    obtain ⟨k, n, hk, rfl, rfl, rfl⟩ := hrel
    by_cases hlt : k < 3
    · have hi := HI.out k hlt
      have hc := HQ.out.cell hlt
      have hsm := HSM.out k (by omega)
      have hk3 : (k : Int) < 3 := by omega
      have hk0 : (0 : Int) ≤ (k : Int) := by omega
      have hk1 : k + 1 ≤ 3 := hlt
      have HS1 := Lib.hid (fun (hh : T p k = T q k) => smTo_yes (p := p) (q := q) (k := k) hh)
      have HS2 := Lib.hid (fun (hh : ¬ T p k = T q k) => smTo_no (p := p) (q := q) (k := k) hh)
      obtain ⟨x, hx⟩ : ∃ x, x = T p k := ⟨_, rfl⟩
      obtain ⟨y, hy⟩ : ∃ y, y = T q k := ⟨_, rfl⟩
      rw [← hx] at hi HS1 HS2
      rw [← hy] at hc HS1 HS2
      obtain ⟨S, hS⟩ : ∃ S, S = smTo p q k := ⟨_, rfl⟩
      rw [← hS] at HS1 HS2 hsm ⊢
      have hpw : 2 ^ k ≤ 4 := by rcases nat3 hlt with rfl | rfl | rfl <;> decide
      clear hx hy hS
      by_cases h2 : x = y
      · have HS' := Lib.hid (HS1.out h2)
        have hq2 : (x == y) = true := by simp [h2]
        clear HS1 HS2 h2
        rcases nat3 hlt with rfl | rfl | rfl
        · have ew : IntKind.i64.wrap ((S : Int) + 1) = (S : Int) + 1 := IntWalk.i64_in _ (by omega)
          have hi' : ∀ w1, (Instr.index 68 (.agg #[.int .i64 (T p 0), .int .i64 (T p 1), .int .i64 (T p 2)]) (.int .i64 0)).run Try.prog w1 = .ok (.int .i64 x) w1 := hi
          clear hlt hi
          go_wp2
          go_roundw
          case rel => exact ⟨1, n, by omega, by rw [HS'.out]; go_num, by go_num, rfl⟩
          case measure => simp [intOf]
        · have ew : IntKind.i64.wrap ((S : Int) + 2) = (S : Int) + 2 := IntWalk.i64_in _ (by omega)
          have hi' : ∀ w1, (Instr.index 68 (.agg #[.int .i64 (T p 0), .int .i64 (T p 1), .int .i64 (T p 2)]) (.int .i64 1)).run Try.prog w1 = .ok (.int .i64 x) w1 := hi
          clear hlt hi
          go_wp2
          go_roundw
          case rel => exact ⟨2, n, by omega, by rw [HS'.out]; go_num, by go_num, rfl⟩
          case measure => simp [intOf]
        · have ew : IntKind.i64.wrap ((S : Int) + 4) = (S : Int) + 4 := IntWalk.i64_in _ (by omega)
          have hi' : ∀ w1, (Instr.index 68 (.agg #[.int .i64 (T p 0), .int .i64 (T p 1), .int .i64 (T p 2)]) (.int .i64 2)).run Try.prog w1 = .ok (.int .i64 x) w1 := hi
          clear hlt hi
          go_wp2
          go_roundw
          case rel => exact ⟨3, n, by omega, by rw [HS'.out]; go_num, by go_num, rfl⟩
          case measure => simp [intOf]
      · have HS' := Lib.hid (HS2.out h2)
        have hq2 : (x == y) = false := by simp [h2]
        clear HS1 HS2 h2 hlt
        go_wp2
        go_roundw
        case rel => exact ⟨k + 1, n, hk1, by rw [HS'.out], by go_num, rfl⟩
        case measure => simp [intOf]; omega
    · obtain rfl : k = 3 := by omega
      go_wp2
      go_ret
      exact ⟨rfl, below_drewN' BM n⟩

/-- Where dearerOf's world stands. -/
def DrAt (w wr : World) (p q : List Int) (k : Nat) : Prop := Below w.heap.size w wr ∧ Pr3 wr w.heap.size (mxP p q k) ∧ Pr3 wr (w.heap.size + 1 + 1) [0, 0, 0]
theorem DrAt.drew {w wr : World} {p q : List Int} {k : Nat} (h : DrAt w wr p q k) : DrAt w wr.drew p q k := ⟨h.1.drew, h.2.1.keep rfl, h.2.2.keep rfl⟩
theorem DrAt.put {w wr : World} {p q : List Int} {k : Nat} (h : DrAt w wr p q k) (hk : k < 3) : DrAt w (wr.setCell ⟨w.heap.size, k, none⟩ (.int .i64 (if T p k < T q k then T q k else T p k))) p q (k + 1) :=
  ⟨below_al4 h.1, by rw [mxP_step p q hk]; exact h.2.1.set_ (mxP_len _ _ _) hk _, h.2.2.other (by omega)⟩

set_option maxRecDepth 100000 in
set_option maxHeartbeats 800000 in
theorem dearerOf_any (p q : List Int) (w : World) (hp : p.length = 3) :
    Calls Try.prog 90 #[ag3 p, ag3 q] w fun e w' => e = .returned (ag3 (mxP p q 3)) ∧ Below w.heap.size w w' := by
  unfold ag3
  have HI := Lib.hid (fun (k : Nat) (hk : k < 3) w1 => idx3 q hk w1)
  have HS : Hid (DrAt w (((w.alloc (.cells #[.int .i64 (T p 0), .int .i64 (T p 1), .int .i64 (T p 2)] 68)).alloc (.cells #[.int .i64 (T q 0), .int .i64 (T q 1), .int .i64 (T q 2)] 68)).alloc (.cells #[.int .i64 0, .int .i64 0, .int .i64 0] 68)) p q 0) := by
    refine Lib.hid ⟨?_, ?_, ?_⟩
    · exact (((Below.refl _ w).alloc (Nat.le_refl _) _).alloc (by simp) _).alloc (by simp; omega) _
    · rw [mxP_zero q hp]
      exact ((Pr3.new w p).alloc _).alloc _
    · have := Pr3.new ((w.alloc (.cells #[.int .i64 (T p 0), .int .i64 (T p 1), .int .i64 (T p 2)] 68)).alloc (.cells #[.int .i64 (T q 0), .int .i64 (T q 1), .int .i64 (T q 2)] 68)) [0, 0, 0]
      simpa [T] using this
  go_enter Try.func90, Try.ntmps90
  go_wp2
  go_loopw [8] (fun iv wr => ∃ k : Nat, k ≤ 3 ∧ iv = .int .i64 (k : Int) ∧ Hid (DrAt w wr p q k)) (fun iv _ => 3 - (intOf iv).toNat)
  case atStart => exact ⟨0, by omega, rfl, HS⟩
  case round =>
    obtain ⟨k, hk, rfl, HA⟩ := hrel
    clear HS
    by_cases hlt : k < 3
    · have hi := HI.out k hlt
      have HAD := Lib.hid HA.out.drew
      have hc := HAD.out.2.1.cell hlt
      have hfr := HAD.out.2.1.free k
      rw [mxP_at _ _ _ hlt, if_neg (Nat.lt_irrefl k)] at hc
      have hc0 := HA.out.2.1.cell hlt
      rw [mxP_at _ _ _ hlt, if_neg (Nat.lt_irrefl k)] at hc0
      have hfr0 := HA.out.2.1.free k
      have HP := Lib.hid (HA.out.put hlt)
      have HPD := Lib.hid (HAD.out.put hlt)
      have hk3 : (k : Int) < 3 := by omega
      have hk0 : (0 : Int) ≤ (k : Int) := by omega
      have hk1 : k + 1 ≤ 3 := hlt
      obtain ⟨x, hx⟩ : ∃ x, x = T p k := ⟨_, rfl⟩
      obtain ⟨y, hy⟩ : ∃ y, y = T q k := ⟨_, rfl⟩
      rw [← hx] at hc hc0 HP HPD
      rw [← hy] at hi HP HPD
      clear hx hy hlt HA HAD
      go_wp2
      go_roundw
      case rel => exact ⟨k + 1, hk1, by go_num, HP⟩
      case measure => simp [intOf]; omega
    · obtain rfl : k = 3 := by omega
      obtain ⟨hb, hp3, hr⟩ := HA.out
      obtain ⟨l, hl⟩ : ∃ l, l = mxP p q 3 := ⟨_, rfl⟩
      rw [← hl] at hp3
      have c0 := hp3.cell (k := 0) (by omega)
      have c1 := hp3.cell (k := 1) (by omega)
      have c2 := hp3.cell (k := 2) (by omega)
      have f0 := hr.free 0
      have f1 := hr.free 1
      have f2 := hr.free 2
      have r0 := hr.cell (k := 0) (by omega)
      have r1 := hr.cell (k := 1) (by omega)
      have r2 := hr.cell (k := 2) (by omega)
      have HL3 := Lib.hid hl
      clear hl
      have a2 := ((hr.set_ (k := 0) rfl (by omega) (T l 0)).set_ (k := 1) rfl (by omega) (T l 1)).set_ (k := 2) rfl (by omega) (T l 2)
      have s0 := a2.cell (k := 0) (by omega)
      have s1 := a2.cell (k := 1) (by omega)
      have s2 := a2.cell (k := 2) (by omega)
      rw [show T ((([0, 0, 0] : List Int).set 0 (T l 0)).set 1 (T l 1) |>.set 2 (T l 2)) 0 = T l 0 from rfl] at s0
      rw [show T ((([0, 0, 0] : List Int).set 0 (T l 0)).set 1 (T l 1) |>.set 2 (T l 2)) 1 = T l 1 from rfl] at s1
      rw [show T ((([0, 0, 0] : List Int).set 0 (T l 0)).set 1 (T l 1) |>.set 2 (T l 2)) 2 = T l 2 from rfl] at s2
      have HB : Hid (Below w.heap.size w (((wr.setCell ⟨w.heap.size + 1 + 1, 0, none⟩ (.int .i64 (T l 0))).setCell ⟨w.heap.size + 1 + 1, 1, none⟩ (.int .i64 (T l 1))).setCell ⟨w.heap.size + 1 + 1, 2, none⟩ (.int .i64 (T l 2)))) := Lib.hid (below_al2 (below_al2 (below_al2 hb)))
      clear a2 hr hp3
      go_wp2
      refine bodyPost_ret (by simp [results, Try.results90, go_sem, s0, s1, s2]; try rfl) rfl ?_
      exact ⟨by rw [HL3.out], HB.out⟩

end Go.Proofs.Ytfjncipekjnbjaa

/-
  Lists of three prices compared.
-/
namespace Go.Proofs.Ytfjncipekjnbjaa
open Go.RowKit

/-- What comparing two price lists tells. -/
theorem run_eq3 (a b : List Int) (w : World) : (Op.equalIn 10000 68 (.agg #[.int .i64 (T a 0), .int .i64 (T a 1), .int .i64 (T a 2)]) (.agg #[.int .i64 (T b 0), .int .i64 (T b 1), .int .i64 (T b 2)])).run Try.prog w = .ok (T a 0 == T b 0 && (T a 1 == T b 1 && T a 2 == T b 2)) w := by
  obtain ⟨i0, hi, _, _, _⟩ := info_parts int_info
  have hc : Try.prog.cellsOf 3 = 1 := by kernel_rfl
  have hu := Try.underlying68
  generalize T a 0 = a0
  generalize T a 1 = a1
  generalize T a 2 = a2
  generalize T b 0 = b0
  generalize T b 1 = b1
  generalize T b 2 = b2
  rw [run_equalIn_array w 9999 _ _ hu hi, hc]
  show (Op.eqItems 9999 3 1 _ _ [0, 1, 2]).run Try.prog w = _
  have he := fun (x y : Int) => run_equalIn_int (P := Try.prog) w 9998 3 .i64 .i64 x y Try.underlying3
  have hp := fun (v0 v1 v2 : Int) => (show (part 3 #[.int .i64 v0, .int .i64 v1, .int .i64 v2] 0).run Try.prog w = .ok (.int .i64 v0) w by simp [part, isAgg, run_underlying Try.underlying3])
  have hp1 := fun (v0 v1 v2 : Int) => (show (part 3 #[.int .i64 v0, .int .i64 v1, .int .i64 v2] 1).run Try.prog w = .ok (.int .i64 v1) w by simp [part, isAgg, run_underlying Try.underlying3])
  have hp2 := fun (v0 v1 v2 : Int) => (show (part 3 #[.int .i64 v0, .int .i64 v1, .int .i64 v2] 2).run Try.prog w = .ok (.int .i64 v2) w by simp [part, isAgg, run_underlying Try.underlying3])
  cases h0 : (a0 == b0) <;> cases h1 : (a1 == b1) <;> cases h2 : (a2 == b2) <;> simp [Op.eqItems, hp, hp1, hp2, he, h0, h1, h2]

end Go.Proofs.Ytfjncipekjnbjaa

/-
  Chapter 6: the program's KeepsDemand; both sides.
-/
namespace Go.Proofs.Ytfjncipekjnbjaa
open Go.RowKit

/-- The greater prices are the others just if none of these is less. -/
theorem mx_up {p q : List Int} (h : UpTo p q 3) {i : Nat} (hi : i < 3) : T (mxP p q 3) i = T q i := by
  rw [mxP_end p q hi]
  have := h i hi
  split <;> omega
theorem mx_no {p q : List Int} (h : ¬ UpTo p q 3) : ∃ i, i < 3 ∧ T (mxP p q 3) i ≠ T q i := by
  by_cases h0 : T p 0 ≤ T q 0
  · by_cases h1 : T p 1 ≤ T q 1
    · by_cases h2 : T p 2 ≤ T q 2
      · exact absurd (fun i hi => by rcases nat3 hi with rfl | rfl | rfl <;> assumption) h
      · exact ⟨2, by omega, by rw [mxP_end p q (by omega)]; split <;> omega⟩
    · exact ⟨1, by omega, by rw [mxP_end p q (by omega)]; split <;> omega⟩
  · exact ⟨0, by omega, by rw [mxP_end p q (by omega)]; split <;> omega⟩

/-- A region that draws its order, all ways of which end alike, but for two blocks and what lies in them. -/
theorem wp_alike2 {P : Program} {c : Code} {K : Act → World → Prop} {Q : Exit → Act → World → Prop} {a : Act} {w : World} (a0 : Nat → Nat → Act) (R : Nat → Nat → World → Prop) (h : ∀ K1 : Act → World → Prop, (∀ M N w', R M N w' → K1 (a0 M N) w') → c.wp P (Exit.then K1 Q) a w) (hk : ∀ M N w', R M N w' → K (a0 M N) w') : c.wp P (Exit.then K Q) a w := h K hk
/-- Two blocks hold the prices p and q. -/
def TwoAt (w0 : World) (p q : List Int) (M N : Nat) (w' : World) : Prop := Below w0.heap.size w0 w' ∧ Pr3 w' M p ∧ Pr3 w' N q

set_option pp.maxSteps 1000000 in
set_option maxRecDepth 100000 in
set_option maxHeartbeats 400000 in
theorem KeepsDemand_yes (A B C : Option Addr) (c d f : Nat) (t p q : List Int) (w : World) (h : Rd w A c t) (g : Rd w B d p) (r : Rd w C f q) (hv : VT t) (hp : VP p) (hq : VP q) :
    Calls Try.prog 33 #[.slice A t.length c, .slice B p.length d, .slice C q.length f] w fun e w' => e = .returned (.bool (kdB t p q)) ∧ Below w.heap.size w w' := by
  have HI := Lib.hid (isPriced_any A B c d t p w h g (by rw [hv.1]; omega))
  have HQ := Lib.hid (fun w1 (g : Rd w1 C f q) => arePrices_any C f q w1 g)
  rw [vt_true hv, vp_true hp] at HI
  rw [vp_true hq] at HQ
  have h3 := hp.1
  have q3 := hq.1
  have h8 := hv.1
  have HD1 := Lib.hid (fun w1 (h : Rd w1 A c t) (g : Rd w1 B d p) => DemandAt_any A B c d t p w1 h g (by rw [h8]; omega))
  have HD2 := Lib.hid (fun w1 (h : Rd w1 A c t) (g : Rd w1 C f q) => DemandAt_any A C c f t q w1 h g (by rw [h8]; omega))
  rw [show dmB t p = dm t p by unfold dmB; rw [vt_true hv, vp_true hp]; rfl] at HD1
  rw [show dmB t q = dm t q by unfold dmB; rw [vt_true hv, vp_true hq]; rfl] at HD2
  have HX0 := fun w1 => dearerOf_any p q w1 h3
  have HS0 := fun w1 => sameIn_any p q w1
  unfold ag3 at HX0 HS0
  have HX := Lib.hid HX0
  have HS := Lib.hid HS0
  have HNU := Lib.hid (fun (hn : ¬ UpTo p q 3) => kdB_false (t := t) (p := p) (q := q) (fun hh => hn (fun k hk => hh.2.2.2.1 k hk)))
  have HYE := Lib.hid (fun (hu : UpTo p q 3) (ha : allTo (sm p q) (dm t q) (dm t p) (dm t p).length = true) => kdB_true (t := t) (p := p) (q := q) ⟨hv, hp, hq, hu, kd_all.1 ha⟩)
  have HNO := Lib.hid (fun (ha : allTo (sm p q) (dm t q) (dm t p) (dm t p).length = false) => kdB_false (t := t) (p := p) (q := q) (fun hh => by rw [kd_all.2 hh.2.2.2.2] at ha; cases ha))
  obtain ⟨b1, off1, rfl⟩ := g.some3 h3
  obtain ⟨b2, off2, rfl⟩ := r.some3 q3
  have hap1 := arr3_ptr b1 off1 d
  have hap2 := arr3_ptr b2 off2 f
  rw [h8] at HI HD1 HD2 ⊢
  rw [h3] at HI HD1 ⊢
  rw [q3] at HQ HD2 ⊢
  clear hv hp hq HX0 HS0
  go_enter Try.func33, Try.ntmps33
  go_wp2_with fail
  go_step3
  go_wp2_with fail
  refine HI.out.mono ?_
  rintro e w1 ⟨rfl, bb1⟩
  go_wp2_with fail
  refine (HQ.out _ (r.below bb1)).mono ?_
  rintro e w2 ⟨rfl, rfl⟩
  have hS0 : Hid (∀ W : World, Below w1.heap.size w1 W → (fun W : World => W.cell? ⟨b1, off1, none⟩ = some (.int .i64 (T p 0)) ∧ W.cell? ⟨b1, off1 + 1, none⟩ = some (.int .i64 (T p 1)) ∧ W.cell? ⟨b1, off1 + 2, none⟩ = some (.int .i64 (T p 2)) ∧ W.cell? ⟨b2, off2, none⟩ = some (.int .i64 (T q 0)) ∧ W.cell? ⟨b2, off2 + 1, none⟩ = some (.int .i64 (T q 1)) ∧ W.cell? ⟨b2, off2 + 2, none⟩ = some (.int .i64 (T q 2))) W) := Lib.hid (fun W hb => by
    obtain ⟨g0, g1, g2⟩ := ((g.below bb1).below hb).three h3
    obtain ⟨r0, r1, r2⟩ := ((r.below bb1).below hb).three q3
    exact ⟨g0, g1, g2, r0, r1, r2⟩)
  have hbd : Below w1.heap.size w1 w1.drew := (Below.refl _ w1).drew
  have zz0 : Pr3 ((w1.alloc (.cells #[.int .i64 0, .int .i64 0, .int .i64 0] 68)).alloc (.cells #[.int .i64 0, .int .i64 0, .int .i64 0] 68)) w1.heap.size [0, 0, 0] := (Pr3.new w1 [0, 0, 0]).alloc _
  have zz1 : Pr3 ((w1.alloc (.cells #[.int .i64 0, .int .i64 0, .int .i64 0] 68)).alloc (.cells #[.int .i64 0, .int .i64 0, .int .i64 0] 68)) (w1.heap.size + 1) [0, 0, 0] := by
    have := Pr3.new (w1.alloc (.cells #[.int .i64 0, .int .i64 0, .int .i64 0] 68)) [0, 0, 0]
    rw [World.size_alloc] at this
    exact this
  go_wp2_with fail
  refine wp_alike2 (fun M N => ⟨#[.slice A 8 c, .slice (some ⟨b1, off1, none⟩) 3 d, .slice (some ⟨b2, off2, none⟩) 3 f, undef, undef, undef, .bool false, .pointer (some ⟨M, 0, none⟩), .pointer (some ⟨N, 0, none⟩), undef, undef, undef, undef, undef, undef, .slice A 8 c, .slice (some ⟨b1, off1, none⟩) 3 d, .bool true, .bool false, .bool false, .slice (some ⟨b2, off2, none⟩) 3 f, .bool true, .bool false, .bool false, .slice (some ⟨b1, off1, none⟩) 3 d, .pointer (some ⟨b1, off1, none⟩), .agg #[.int .i64 (T p 0), .int .i64 (T p 1), .int .i64 (T p 2)], .slice (some ⟨b2, off2, none⟩) 3 f, .pointer (some ⟨b2, off2, none⟩), .agg #[.int .i64 (T q 0), .int .i64 (T q 1), .int .i64 (T q 2)], undef, undef, undef, undef, undef, undef, undef, undef, undef, undef, undef, undef, undef, undef, undef, undef, undef, undef, undef, undef, undef, undef, undef, undef, undef, undef, undef, undef, undef, undef, undef, undef, undef], []⟩) (TwoAt w1 p q) (fun K1 h1 => ?first) ?rest
  case first =>
    refine wp_region_noPanic ?_
    refine wp_region_held_drew (S := fun W : World => W.cell? ⟨b1, off1, none⟩ = some (.int .i64 (T p 0)) ∧ W.cell? ⟨b1, off1 + 1, none⟩ = some (.int .i64 (T p 1)) ∧ W.cell? ⟨b1, off1 + 2, none⟩ = some (.int .i64 (T p 2)) ∧ W.cell? ⟨b2, off2, none⟩ = some (.int .i64 (T q 0)) ∧ W.cell? ⟨b2, off2 + 1, none⟩ = some (.int .i64 (T q 1)) ∧ W.cell? ⟨b2, off2 + 2, none⟩ = some (.int .i64 (T q 2))) (by kernel_rfl) (hS0.out _ hbd) (fun hHeld => ?_)
    refine wpAnyH_take (i := 0) (v := _) rfl (by kernel_rfl) (by kernel_rfl) (by kernel_rfl) (fun _ _ _ h => h) (Or.inl ⟨by rfl, fun w hSw => by (obtain ⟨s0, s1, s2, s3, s4, s5⟩ := hSw; go_simp; try rfl)⟩) (by assumption) ?_
    refine wpAnyH_take (i := 1) (v := _) rfl (by kernel_rfl) (by kernel_rfl) (by kernel_rfl) (fun _ _ _ h => h) (Or.inl ⟨by rfl, fun w hSw => by (obtain ⟨s0, s1, s2, s3, s4, s5⟩ := hSw; go_simp; try rfl)⟩) (by assumption) ?_
    refine wpAnyH_take (i := 2) (v := _) rfl (by kernel_rfl) (by kernel_rfl) (by kernel_rfl) (fun _ _ _ h => h) (Or.inl ⟨by rfl, fun w hSw => by (obtain ⟨s0, s1, s2, s3, s4, s5⟩ := hSw; go_simp; try rfl)⟩) (by assumption) ?_
    refine wpAnyH_take (i := 3) (v := _) rfl (by kernel_rfl) (by kernel_rfl) (by kernel_rfl) (fun _ _ _ h => h) (Or.inl ⟨by rfl, fun w hSw => by (obtain ⟨s0, s1, s2, s3, s4, s5⟩ := hSw; go_simp; try rfl)⟩) (by assumption) ?_
    refine wpAnyH_take (i := 4) (v := _) rfl (by kernel_rfl) (by kernel_rfl) (by kernel_rfl) (fun _ _ _ h => h) (Or.inl ⟨by rfl, fun w hSw => by (obtain ⟨s0, s1, s2, s3, s4, s5⟩ := hSw; go_simp; try rfl)⟩) (by assumption) ?_
    refine wpAnyH_take (i := 5) (v := _) rfl (by kernel_rfl) (by kernel_rfl) (by kernel_rfl) (fun _ _ _ h => h) (Or.inl ⟨by rfl, fun w hSw => by (obtain ⟨s0, s1, s2, s3, s4, s5⟩ := hSw; go_simp; try rfl)⟩) (by assumption) ?_
    refine wpAnyH_ready (rs := [6, 7]) (by kernel_rfl) (by simp) ?_
    refine AllReadyH.cons rfl (fun K hK => ?_) (AllReadyH.cons rfl (fun K hK => ?_) AllReadyH.nil)
    · go_simp
      refine hK.out _ _ (hS0.out _ ?_) (fun hHeld => ?_)
      · exact ((Below.refl _ w1).alloc (Nat.le_refl _) _).drew
      clear hK K
      refine wpAnyH_ready (rs := [7]) (by kernel_rfl) (by simp) ?_
      refine AllReadyH.cons rfl (fun K hK => ?_) AllReadyH.nil
      go_simp
      refine hK.out _ _ (hS0.out _ ?_) (fun hHeld => ?_)
      · exact (((Below.refl _ w1).alloc (Nat.le_refl _) _).alloc (by simp) _).drew
      clear hK K
      obtain ⟨M, N, w3, hM, hN, hw3⟩ : ∃ M N w3, M = w1.heap.size ∧ N = w1.heap.size + 1 ∧ w3 = ((w1.alloc (.cells #[.int .i64 0, .int .i64 0, .int .i64 0] 68)).alloc (.cells #[.int .i64 0, .int .i64 0, .int .i64 0] 68)).drew := ⟨_, _, _, rfl, rfl, rfl⟩
      have B3 : Below w1.heap.size w1 w3 := by rw [hw3]; exact (((Below.refl _ w1).alloc (Nat.le_refl _) _).alloc (by simp) _).drew
      have zM : Pr3 w3 M [0, 0, 0] := by rw [hw3, hM]; exact zz0.keep rfl
      have zN : Pr3 w3 N [0, 0, 0] := by rw [hw3, hN]; exact zz1.keep rfl
      have hMN : M ≠ N := by omega
      have hM1 : w1.heap.size ≤ M := by omega
      have hN1 : w1.heap.size ≤ N := by omega
      rw [← hw3, ← hN, ← hM]
      clear hw3 hM hN hHeld
      have zc0 : w3.cell? ⟨M, 0, none⟩ = some (.int .i64 0) := zM.cell (k := 0) (by omega)
      have zc1 : w3.cell? ⟨M, 1, none⟩ = some (.int .i64 0) := zM.cell (k := 1) (by omega)
      have zc2 : w3.cell? ⟨M, 2, none⟩ = some (.int .i64 0) := zM.cell (k := 2) (by omega)
      have zf0 := zM.free 0
      have zf1 := zM.free 1
      have zf2 := zM.free 2
      refine wpAnyH_ready (rs := [8]) (by kernel_rfl) (by simp) ?_
      refine AllReadyH.cons rfl (fun K hK => ?_) AllReadyH.nil
      go_simp
      have B4 : Below w1.heap.size w1 (((w3.setCell ⟨M, 0, none⟩ (.int .i64 (T p 0))).setCell ⟨M, 1, none⟩ (.int .i64 (T p 1))).setCell ⟨M, 2, none⟩ (.int .i64 (T p 2))) := ((B3.setCell hM1 _).setCell hM1 _).setCell hM1 _
      refine hK.out _ _ (hS0.out _ B4) (fun hHeld => ?_)
      clear hK K
      have yM : Pr3 (((w3.setCell ⟨M, 0, none⟩ (.int .i64 (T p 0))).setCell ⟨M, 1, none⟩ (.int .i64 (T p 1))).setCell ⟨M, 2, none⟩ (.int .i64 (T p 2))) M p := ((zM.set_ rfl (k := 0) (by omega) (T p 0)).set_ rfl (k := 1) (by omega) (T p 1)).set_ rfl (k := 2) (by omega) (T p 2)
      have yN : Pr3 (((w3.setCell ⟨M, 0, none⟩ (.int .i64 (T p 0))).setCell ⟨M, 1, none⟩ (.int .i64 (T p 1))).setCell ⟨M, 2, none⟩ (.int .i64 (T p 2))) N [0, 0, 0] := ((zN.other hMN.symm).other hMN.symm).other hMN.symm
      obtain ⟨w4, hw4⟩ : ∃ w4, w4 = (((w3.setCell ⟨M, 0, none⟩ (.int .i64 (T p 0))).setCell ⟨M, 1, none⟩ (.int .i64 (T p 1))).setCell ⟨M, 2, none⟩ (.int .i64 (T p 2))) := ⟨_, rfl⟩
      rw [← hw4] at B4 yM yN ⊢
      clear hw4 zc0 zc1 zc2 zf0 zf1 zf2 zM zN B3 hHeld
      have zc0 : w4.cell? ⟨N, 0, none⟩ = some (.int .i64 0) := yN.cell (k := 0) (by omega)
      have zc1 : w4.cell? ⟨N, 1, none⟩ = some (.int .i64 0) := yN.cell (k := 1) (by omega)
      have zc2 : w4.cell? ⟨N, 2, none⟩ = some (.int .i64 0) := yN.cell (k := 2) (by omega)
      have zf0 := yN.free 0
      have zf1 := yN.free 1
      have zf2 := yN.free 2
      refine wpAnyH_ready (rs := [9]) (by kernel_rfl) (by simp) ?_
      refine AllReadyH.cons rfl (fun K hK => ?_) AllReadyH.nil
      go_simp
      have B5 : Below w1.heap.size w1 (((w4.setCell ⟨N, 0, none⟩ (.int .i64 (T q 0))).setCell ⟨N, 1, none⟩ (.int .i64 (T q 1))).setCell ⟨N, 2, none⟩ (.int .i64 (T q 2))) := ((B4.setCell hN1 _).setCell hN1 _).setCell hN1 _
      refine hK.out _ _ (hS0.out _ B5) (fun hHeld => ?_)
      clear hK K
      refine wpAnyH_done (by kernel_rfl) (NoPanic.normal ?_) _
      exact exit_normal (h1 M N _ ⟨B5, ((yM.other hMN).other hMN).other hMN, ((yN.set_ rfl (k := 0) (by omega) (T q 0)).set_ rfl (k := 1) (by omega) (T q 1)).set_ rfl (k := 2) (by omega) (T q 2)⟩)
    · go_simp
      refine hK.out _ _ (hS0.out _ ?_) (fun hHeld => ?_)
      · exact ((Below.refl _ w1).alloc (Nat.le_refl _) _).drew
      clear hK K
      refine wpAnyH_ready (rs := [6]) (by kernel_rfl) (by simp) ?_
      refine AllReadyH.cons rfl (fun K hK => ?_) AllReadyH.nil
      go_simp
      refine hK.out _ _ (hS0.out _ ?_) (fun hHeld => ?_)
      · exact (((Below.refl _ w1).alloc (Nat.le_refl _) _).alloc (by simp) _).drew
      clear hK K
      obtain ⟨M, N, w3, hM, hN, hw3⟩ : ∃ M N w3, M = w1.heap.size + 1 ∧ N = w1.heap.size ∧ w3 = ((w1.alloc (.cells #[.int .i64 0, .int .i64 0, .int .i64 0] 68)).alloc (.cells #[.int .i64 0, .int .i64 0, .int .i64 0] 68)).drew := ⟨_, _, _, rfl, rfl, rfl⟩
      have B3 : Below w1.heap.size w1 w3 := by rw [hw3]; exact (((Below.refl _ w1).alloc (Nat.le_refl _) _).alloc (by simp) _).drew
      have zM : Pr3 w3 M [0, 0, 0] := by rw [hw3, hM]; exact zz1.keep rfl
      have zN : Pr3 w3 N [0, 0, 0] := by rw [hw3, hN]; exact zz0.keep rfl
      have hMN : M ≠ N := by omega
      have hM1 : w1.heap.size ≤ M := by omega
      have hN1 : w1.heap.size ≤ N := by omega
      rw [← hw3, ← hM, ← hN]
      clear hw3 hM hN hHeld
      have zc0 : w3.cell? ⟨M, 0, none⟩ = some (.int .i64 0) := zM.cell (k := 0) (by omega)
      have zc1 : w3.cell? ⟨M, 1, none⟩ = some (.int .i64 0) := zM.cell (k := 1) (by omega)
      have zc2 : w3.cell? ⟨M, 2, none⟩ = some (.int .i64 0) := zM.cell (k := 2) (by omega)
      have zf0 := zM.free 0
      have zf1 := zM.free 1
      have zf2 := zM.free 2
      refine wpAnyH_ready (rs := [8]) (by kernel_rfl) (by simp) ?_
      refine AllReadyH.cons rfl (fun K hK => ?_) AllReadyH.nil
      go_simp
      have B4 : Below w1.heap.size w1 (((w3.setCell ⟨M, 0, none⟩ (.int .i64 (T p 0))).setCell ⟨M, 1, none⟩ (.int .i64 (T p 1))).setCell ⟨M, 2, none⟩ (.int .i64 (T p 2))) := ((B3.setCell hM1 _).setCell hM1 _).setCell hM1 _
      refine hK.out _ _ (hS0.out _ B4) (fun hHeld => ?_)
      clear hK K
      have yM : Pr3 (((w3.setCell ⟨M, 0, none⟩ (.int .i64 (T p 0))).setCell ⟨M, 1, none⟩ (.int .i64 (T p 1))).setCell ⟨M, 2, none⟩ (.int .i64 (T p 2))) M p := ((zM.set_ rfl (k := 0) (by omega) (T p 0)).set_ rfl (k := 1) (by omega) (T p 1)).set_ rfl (k := 2) (by omega) (T p 2)
      have yN : Pr3 (((w3.setCell ⟨M, 0, none⟩ (.int .i64 (T p 0))).setCell ⟨M, 1, none⟩ (.int .i64 (T p 1))).setCell ⟨M, 2, none⟩ (.int .i64 (T p 2))) N [0, 0, 0] := ((zN.other hMN.symm).other hMN.symm).other hMN.symm
      obtain ⟨w4, hw4⟩ : ∃ w4, w4 = (((w3.setCell ⟨M, 0, none⟩ (.int .i64 (T p 0))).setCell ⟨M, 1, none⟩ (.int .i64 (T p 1))).setCell ⟨M, 2, none⟩ (.int .i64 (T p 2))) := ⟨_, rfl⟩
      rw [← hw4] at B4 yM yN ⊢
      clear hw4 zc0 zc1 zc2 zf0 zf1 zf2 zM zN B3 hHeld
      have zc0 : w4.cell? ⟨N, 0, none⟩ = some (.int .i64 0) := yN.cell (k := 0) (by omega)
      have zc1 : w4.cell? ⟨N, 1, none⟩ = some (.int .i64 0) := yN.cell (k := 1) (by omega)
      have zc2 : w4.cell? ⟨N, 2, none⟩ = some (.int .i64 0) := yN.cell (k := 2) (by omega)
      have zf0 := yN.free 0
      have zf1 := yN.free 1
      have zf2 := yN.free 2
      refine wpAnyH_ready (rs := [9]) (by kernel_rfl) (by simp) ?_
      refine AllReadyH.cons rfl (fun K hK => ?_) AllReadyH.nil
      go_simp
      have B5 : Below w1.heap.size w1 (((w4.setCell ⟨N, 0, none⟩ (.int .i64 (T q 0))).setCell ⟨N, 1, none⟩ (.int .i64 (T q 1))).setCell ⟨N, 2, none⟩ (.int .i64 (T q 2))) := ((B4.setCell hN1 _).setCell hN1 _).setCell hN1 _
      refine hK.out _ _ (hS0.out _ B5) (fun hHeld => ?_)
      clear hK K
      refine wpAnyH_done (by kernel_rfl) (NoPanic.normal ?_) _
      exact exit_normal (h1 M N _ ⟨B5, ((yM.other hMN).other hMN).other hMN, ((yN.set_ rfl (k := 0) (by omega) (T q 0)).set_ rfl (k := 1) (by omega) (T q 1)).set_ rfl (k := 2) (by omega) (T q 2)⟩)
  case rest =>
    rintro M N w2 ⟨hB2, pM, pN⟩
    have m0 := pM.cell (k := 0) (by omega)
    have m1 := pM.cell (k := 1) (by omega)
    have m2 := pM.cell (k := 2) (by omega)
    have n0 := pN.cell (k := 0) (by omega)
    have n1 := pN.cell (k := 1) (by omega)
    have n2 := pN.cell (k := 2) (by omega)
    have hS1 : Hid (∀ W : World, Below w2.heap.size w2 W → (W.cell? ⟨M, 0, none⟩ = some (.int .i64 (T p 0)) ∧ W.cell? ⟨M, 1, none⟩ = some (.int .i64 (T p 1)) ∧ W.cell? ⟨M, 2, none⟩ = some (.int .i64 (T p 2)) ∧ W.cell? ⟨N, 0, none⟩ = some (.int .i64 (T q 0)) ∧ W.cell? ⟨N, 1, none⟩ = some (.int .i64 (T q 1)) ∧ W.cell? ⟨N, 2, none⟩ = some (.int .i64 (T q 2)))) := Lib.hid (fun W hb => by
      have pM := pM.keep (hb.block _ pM.lt)
      have pN := pN.keep (hb.block _ pN.lt)
      exact ⟨pM.cell (by omega), pM.cell (by omega), pM.cell (by omega), pN.cell (by omega), pN.cell (by omega), pN.cell (by omega)⟩)
    have hbd2 : Below w2.heap.size w2 w2.drew := (Below.refl _ w2).drew
    by_cases hu : UpTo p q 3
    · have hx0 := mx_up hu (i := 0) (by omega)
      have hx1 := mx_up hu (i := 1) (by omega)
      have hx2 := mx_up hu (i := 2) (by omega)
      rw [hx0, hx1, hx2] at HX
      go_wp2_with fail
      refine wp_region_noPanic ?_
      refine wp_region_held_drew (S := fun W => W.cell? ⟨M, 0, none⟩ = some (.int .i64 (T p 0)) ∧ W.cell? ⟨M, 1, none⟩ = some (.int .i64 (T p 1)) ∧ W.cell? ⟨M, 2, none⟩ = some (.int .i64 (T p 2)) ∧ W.cell? ⟨N, 0, none⟩ = some (.int .i64 (T q 0)) ∧ W.cell? ⟨N, 1, none⟩ = some (.int .i64 (T q 1)) ∧ W.cell? ⟨N, 2, none⟩ = some (.int .i64 (T q 2))) (by kernel_rfl) (hS1.out _ hbd2) (fun hHeld => ?_)
      refine wpAnyH_take (i := 0) (v := _) rfl (by kernel_rfl) (by kernel_rfl) (by kernel_rfl) (fun _ _ _ h => h) (Or.inl ⟨by rfl, fun w hSw => by (obtain ⟨s0, s1, s2, s3, s4, s5⟩ := hSw; go_simp; try rfl)⟩) (by assumption) ?_
      refine wpAnyH_take (i := 1) (v := _) rfl (by kernel_rfl) (by kernel_rfl) (by kernel_rfl) (fun _ _ _ h => h) (Or.inl ⟨by rfl, fun w hSw => by (obtain ⟨s0, s1, s2, s3, s4, s5⟩ := hSw; go_simp; try rfl)⟩) (by assumption) ?_
      refine wpAnyH_take (i := 3) (v := _) rfl (by kernel_rfl) (by kernel_rfl) (by kernel_rfl) (fun _ _ _ h => h) (Or.inl ⟨by rfl, fun w hSw => by (obtain ⟨s0, s1, s2, s3, s4, s5⟩ := hSw; go_simp; try rfl)⟩) (by assumption) ?_
      refine wpAnyH_ready (rs := [2]) (by kernel_rfl) (by simp) ?_
      refine AllReadyH.cons rfl (fun K hK => ?_) AllReadyH.nil
      go_simp
      go_at_call 90
      refine (HX.out _).mono ?_
      rintro e w3 ⟨rfl, b3⟩
      have B3 := below_then hbd2 b3
      refine hK.out _ _ (hS1.out _ B3) (fun hHeld => ?_)
      clear hK K
      refine wpAnyH_ready (rs := [4]) (by kernel_rfl) (by simp) ?_
      refine AllReadyH.cons rfl (fun K hK => ?_) AllReadyH.nil
      have hee := run_eq3 q q w3
      go_simp
      refine hK.out _ _ hHeld (fun hHeld => ?_)
      clear hK K hee
      refine wpAnyH_done (by kernel_rfl) (NoPanic.normal ?_) _
      clear hHeld
      obtain ⟨m0, m1, m2, n0, n1, n2⟩ := hS1.out _ B3
      have hhb := h.below (below_then bb1 (below_then hB2 B3))
      have ggb := g.below (below_then bb1 (below_then hB2 B3))
      have rrb := r.below (below_then bb1 (below_then hB2 B3))
      have BB3 := below_then bb1 (below_then hB2 B3)
      clear hS1 hbd2 hB2 pM pN hx0 hx1 hx2 B3 b3
      go_wp2_with fail
      refine (HS.out _).mono ?_
      rintro e w4 ⟨rfl, b4⟩
      go_wp2_with fail
      refine (HD2.out _ (hhb.below b4) (rrb.below b4)).mono ?_
      rintro e w5 ⟨A5, c5, rfl, o5, b5⟩
      go_wp2_with fail
      go_step3
      go_wp2_with fail
      refine (HD1.out _ ((hhb.below b4).below b5) ((ggb.below b4).below b5)).mono ?_
      rintro e w6 ⟨A6, c6, rfl, o6, b6⟩
      have h5 : Hid (Rd w6 A5 c5 (dm t q)) := Lib.hid (o5.below b6).rd
      have h6 : Hid (Rd w6 A6 c6 (dm t p)) := Lib.hid o6.rd
      have HBF : Hid (Below w.heap.size w w6) := Lib.hid (below_then (below_then (below_then BB3 b4) b5) b6)
      have hM8 : sm p q < 8 := sm_lt p q
      have HL8 := Lib.hid (fun (k : Nat) (x : Int) (h : (dm t q)[k]? = some x) => dm_at h)
      have HO8 := Lib.hid (fun (k : Nat) (x : Int) (h : (dm t p)[k]? = some x) => dm_at h)
      have hol := dm_len t p
      have hll := dm_len t q
      have HYE2 := Lib.hid (HYE.out hu)
      have HNO2 := HNO
      obtain ⟨m, hm⟩ : ∃ m, m = sm p q := ⟨_, rfl⟩
      rw [← hm] at HNO2 HYE2 hM8 ⊢
      obtain ⟨O, hO⟩ : ∃ O, O = dm t p := ⟨_, rfl⟩
      obtain ⟨L, hL⟩ : ∃ L, L = dm t q := ⟨_, rfl⟩
      rw [← hO] at HNO2 HYE2 HO8 h6 hol ⊢
      rw [← hL] at HNO2 HYE2 HL8 h5 hll ⊢
      obtain ⟨LO, hLO⟩ : ∃ LO, LO = O.length := ⟨_, rfl⟩
      obtain ⟨LL, hLL⟩ : ∃ LL, LL = L.length := ⟨_, rfl⟩
      have HLO := Lib.hid hLO
      have HLL := Lib.hid hLL
      rw [← hLO] at HYE2 hol ⊢
      rw [← hLL] at hll ⊢
      clear hm hO hL hLO hLL HYE HNO HNU HI HQ HD1 HD2 HX HS m0 m1 m2 n0 n1 n2 hhb ggb rrb BB3 b4 b5 b6 o5 o6 hu h3 q3 h8 h g r
      go_wp2_with fail
      go_loopg [45] LO (fun g iv wx => ∃ k n : Nat, k + g = LO ∧ iv = .int .i64 (k : Int) ∧ wx = w6.drewN n ∧ Hid (allTo m L O k = true))
      case atStart => exact ⟨0, 0, by omega, rfl, rfl, Lib.hid (allTo_zero m L O)⟩
      case round =>
        obtain ⟨k, n, hkg, rfl, rfl, HA⟩ := hrel
        cases gk with
        | zero =>
          obtain rfl : k = LO := by omega
          have HE := Lib.hid (HYE2.out HA.out)
          have hn : ¬ (k : Int) < (k : Int) := by omega
          go_wp2
          try rw [Exit.noGoto_ret]
          go_ret
          exact ⟨by rw [HE.out]; rfl, below_drewN' HBF.out n⟩
        | succ g =>
          have hlt : (k : Int) < (LO : Int) := by omega
          obtain ⟨ba, offa, x, rfl, _, hx, hcx⟩ := h6.out.at_ (k := k) (by rw [← HLO.out]; omega)
          obtain ⟨s, rfl, hs8⟩ := HO8.out k x hx.out
          have HST := Lib.hid (allTo_step (m := m) (L := L) hx.out)
          have HNX := Lib.hid (fun hn => HNO2.out (allTo_no (m := m) (L := L) hx.out hn))
          clear hx
          go_wp2_with fail
          go_loopg [51] LL (fun g2 iv wx => ∃ j n2 : Nat, j + g2 = LL ∧ iv = .int .i64 (j : Int) ∧ wx = w6.drewN n2 ∧ Hid (anyTo m (s : Int) L j = false))
          case atStart => exact ⟨0, n, by omega, rfl, rfl, Lib.hid (anyTo_zero _ _ _)⟩
          case round =>
            obtain ⟨j, n2, hjg, rfl, rfl, HB⟩ := hrel
            cases gk with
            | zero =>
              obtain rfl : j = LL := by omega
              have HE := Lib.hid (HNX.out (by rw [← anyTo_all, ← HLL.out]; exact HB.out))
              have hn : ¬ (j : Int) < (j : Int) := by omega
              go_wp2
              try rw [Exit.noGoto_ret]
              go_ret
              exact ⟨by rw [HE.out]; rfl, below_drewN' HBF.out n2⟩
            | succ g2 =>
              have hjl : (j : Int) < (LL : Int) := by omega
              obtain ⟨bb, offb, y, rfl, _, hy, hcy⟩ := h5.out.at_ (k := j) (by rw [← HLL.out]; omega)
              obtain ⟨z, rfl, hz8⟩ := HL8.out j y hy.out
              obtain ⟨e1, e2⟩ := cov_bits hs8 hM8 hz8
              have HAN := Lib.hid (anyTo_step (m := m) (s := (s : Int)) hy.out)
              have HCE := Lib.hid (covB_eq m s z)
              have HCA : Hid (covB m (s : Int) (z : Int) = true → L.any (covB m (s : Int)) = true) := Lib.hid (fun h => List.any_eq_true.2 ⟨_, List.mem_of_getElem? hy.out, h⟩)
              obtain ⟨X, hX⟩ : ∃ X, X = s &&& m := ⟨_, rfl⟩
              rw [← hX] at e1 e2 HCE
              obtain ⟨Y, hY⟩ : ∃ Y, Y = X - (X &&& z) := ⟨_, rfl⟩
              rw [← hY] at e2 HCE
              clear hX hY hy
              rcases hF : covB m (s : Int) (z : Int) with _ | _
              · have hq2 : ((Y : Int) == 0) = false := by rw [← HCE.out]; exact hF
                have HB' : Hid (anyTo m (s : Int) L (j + 1) = false) := Lib.hid (by rw [HAN.out, HB.out, hF]; rfl)
                have hj1 : j + 1 + g2 = LL := by omega
                clear hF HCE HAN HCA
                go_wp2
                go_roundg g2
                case rel => exact ⟨j + 1, _, hj1, by go_num, rfl, HB'⟩
                case measure => omega
              · have hq2 : ((Y : Int) == 0) = true := by rw [← HCE.out]; exact hF
                have HA' : Hid (allTo m L O (k + 1) = true) := Lib.hid (by rw [HST.out, HA.out, HCA.out hF]; rfl)
                have hk1 : k + 1 + g = LO := by omega
                clear hF HCE HAN HCA
                go_wp2
                go_roundg g
                case rel => exact ⟨k + 1, _, hk1, by go_num, rfl, HA'⟩
                case measure => omega
    · have hne : (T (mxP p q 3) 0 == T q 0 && (T (mxP p q 3) 1 == T q 1 && T (mxP p q 3) 2 == T q 2)) = false := by
        obtain ⟨i, hi, hn⟩ := mx_no hu
        rcases nat3 hi with rfl | rfl | rfl <;> simp [hn]
      have HE := Lib.hid (HNU.out hu)
      have hqe := fun w3 => run_eq3 (mxP p q 3) q w3
      rw [hne] at hqe
      clear hne hu HYE HNO HNU
      go_wp2_with fail
      refine wp_region_noPanic ?_
      refine wp_region_held_drew (S := fun W => W.cell? ⟨M, 0, none⟩ = some (.int .i64 (T p 0)) ∧ W.cell? ⟨M, 1, none⟩ = some (.int .i64 (T p 1)) ∧ W.cell? ⟨M, 2, none⟩ = some (.int .i64 (T p 2)) ∧ W.cell? ⟨N, 0, none⟩ = some (.int .i64 (T q 0)) ∧ W.cell? ⟨N, 1, none⟩ = some (.int .i64 (T q 1)) ∧ W.cell? ⟨N, 2, none⟩ = some (.int .i64 (T q 2))) (by kernel_rfl) (hS1.out _ hbd2) (fun hHeld => ?_)
      refine wpAnyH_take (i := 0) (v := _) rfl (by kernel_rfl) (by kernel_rfl) (by kernel_rfl) (fun _ _ _ h => h) (Or.inl ⟨by rfl, fun w hSw => by (obtain ⟨s0, s1, s2, s3, s4, s5⟩ := hSw; go_simp; try rfl)⟩) (by assumption) ?_
      refine wpAnyH_take (i := 1) (v := _) rfl (by kernel_rfl) (by kernel_rfl) (by kernel_rfl) (fun _ _ _ h => h) (Or.inl ⟨by rfl, fun w hSw => by (obtain ⟨s0, s1, s2, s3, s4, s5⟩ := hSw; go_simp; try rfl)⟩) (by assumption) ?_
      refine wpAnyH_take (i := 3) (v := _) rfl (by kernel_rfl) (by kernel_rfl) (by kernel_rfl) (fun _ _ _ h => h) (Or.inl ⟨by rfl, fun w hSw => by (obtain ⟨s0, s1, s2, s3, s4, s5⟩ := hSw; go_simp; try rfl)⟩) (by assumption) ?_
      refine wpAnyH_ready (rs := [2]) (by kernel_rfl) (by simp) ?_
      refine AllReadyH.cons rfl (fun K hK => ?_) AllReadyH.nil
      go_simp
      go_at_call 90
      refine (HX.out _).mono ?_
      rintro e w3 ⟨rfl, b3⟩
      have B3 := below_then hbd2 b3
      refine hK.out _ _ (hS1.out _ B3) (fun hHeld => ?_)
      clear hK K
      refine wpAnyH_ready (rs := [4]) (by kernel_rfl) (by simp) ?_
      refine AllReadyH.cons rfl (fun K hK => ?_) AllReadyH.nil
      have hee := hqe w3
      go_simp
      refine hK.out _ _ hHeld (fun hHeld => ?_)
      clear hK K hee hqe
      refine wpAnyH_done (by kernel_rfl) (NoPanic.normal ?_) _
      have BB3 := below_then bb1 (below_then hB2 B3)
      clear hHeld m0 m1 m2 n0 n1 n2 hS1 hbd2 hB2 pM pN b3 B3
      go_wp2
      try rw [Exit.noGoto_ret]
      go_ret
      exact ⟨by rw [HE.out]; rfl, BB3⟩

end Go.Proofs.Ytfjncipekjnbjaa

/-
  Chapter 6: KeepsDemand: both sides at whatever arguments.
-/
namespace Go.Proofs.Ytfjncipekjnbjaa
open Go.RowKit

theorem kdB_no {t p q : List Int} (h : vt t = false ∨ vp p = false ∨ vp q = false) : kdB t p q = false := kdB_false (fun hh => by
  rcases h with h | h | h
  · rw [vt_true hh.1] at h; cases h
  · rw [vp_true hh.2.1] at h; cases h
  · rw [vp_true hh.2.2.1] at h; cases h)

set_option maxHeartbeats 800000 in
theorem SKeepsDemand_any (A B C : Option Addr) (c d f : Nat) (t p q : List Int) (w : World) (h : Rd w A c t) (g : Rd w B d p) (r : Rd w C f q) (hl : t.length ≤ 1099511627776) (hp : p.length ≤ 1099511627776) (hq : q.length ≤ 1099511627776) :
    Calls Try.prog 35 #[.slice A t.length c, .slice B p.length d, .slice C q.length f] w fun e w' => e = .returned (.bool (kdB t p q)) ∧ Below w.heap.size w w' := by
  have HV := Lib.hid (SvalidTable_any A c t w h hl)
  have HP := Lib.hid (fun w1 (g : Rd w1 B d p) => SvalidPrices_any B d p w1 g hp)
  have HQ := Lib.hid (fun w1 (g : Rd w1 C f q) => SvalidPrices_any C f q w1 g hq)
  rcases h1 : vt t with _ | _
  · have HE := Lib.hid (kdB_no (p := p) (q := q) (.inl h1))
    rw [h1] at HV
    clear h1
    go_enter Try.func35, Try.ntmps35
    go_wp2_with fail
    refine HV.out.mono ?_
    rintro e w1 ⟨rfl, n1, rfl⟩
    go_wp2
    go_ret
    exact ⟨by rw [HE.out]; rfl, below_drewN' (Below.refl _ _) n1⟩
  rcases h2 : vp p with _ | _
  · have HE := Lib.hid (kdB_no (t := t) (q := q) (.inr (.inl h2)))
    rw [h1] at HV
    rw [h2] at HP
    clear h1 h2
    go_enter Try.func35, Try.ntmps35
    go_wp2_with fail
    refine HV.out.mono ?_
    rintro e w1 ⟨rfl, n1, rfl⟩
    go_wp2_with fail
    refine (HP.out _ (g.drewN _)).mono ?_
    rintro e w1 ⟨rfl, n2, rfl⟩
    go_wp2
    go_ret
    exact ⟨by rw [HE.out]; rfl, below_drewN' (Below.refl _ _) (n1 + n2)⟩
  rcases h3 : vp q with _ | _
  · have HE := Lib.hid (kdB_no (t := t) (p := p) (.inr (.inr h3)))
    rw [h1] at HV
    rw [h2] at HP
    rw [h3] at HQ
    clear h1 h2 h3
    go_enter Try.func35, Try.ntmps35
    go_wp2_with fail
    refine HV.out.mono ?_
    rintro e w1 ⟨rfl, n1, rfl⟩
    go_wp2_with fail
    refine (HP.out _ (g.drewN _)).mono ?_
    rintro e w1 ⟨rfl, n2, rfl⟩
    go_wp2_with fail
    refine (HQ.out _ (r.drewN _)).mono ?_
    rintro e w1 ⟨rfl, n3, rfl⟩
    go_wp2
    go_ret
    exact ⟨by rw [HE.out]; rfl, below_drewN' (Below.refl _ _) (n1 + n2 + n3)⟩
  exact SKeepsDemand_yes A B C c d f t p q w h g r (vt_iff.1 h1) (vp_iff.1 h2) (vp_iff.1 h3)

set_option maxHeartbeats 800000 in
theorem KeepsDemand_any (A B C : Option Addr) (c d f : Nat) (t p q : List Int) (w : World) (h : Rd w A c t) (g : Rd w B d p) (r : Rd w C f q) (hl : t.length ≤ 1099511627776) :
    Calls Try.prog 33 #[.slice A t.length c, .slice B p.length d, .slice C q.length f] w fun e w' => e = .returned (.bool (kdB t p q)) ∧ Below w.heap.size w w' := by
  have HI := Lib.hid (isPriced_any A B c d t p w h g hl)
  have HQ := Lib.hid (fun w1 (g : Rd w1 C f q) => arePrices_any C f q w1 g)
  rcases h1 : vt t && vp p with _ | _
  · have HE := Lib.hid (kdB_no (t := t) (p := p) (q := q) (by rcases hv : vt t with _ | _; exact .inl rfl; rw [hv] at h1; exact .inr (.inl (by simpa using h1))))
    rw [h1] at HI
    clear h1
    go_enter Try.func33, Try.ntmps33
    go_wp2_with fail
    go_step3
    go_wp2_with fail
    refine HI.out.mono ?_
    rintro e w1 ⟨rfl, b1⟩
    go_wp2
    try rw [Exit.noGoto_ret]
    go_ret
    exact ⟨by rw [HE.out]; rfl, b1⟩
  rcases h3 : vp q with _ | _
  · have HE := Lib.hid (kdB_no (t := t) (p := p) (.inr (.inr h3)))
    rw [h1] at HI
    rw [h3] at HQ
    clear h1 h3
    go_enter Try.func33, Try.ntmps33
    go_wp2_with fail
    go_step3
    go_wp2_with fail
    refine HI.out.mono ?_
    rintro e w1 ⟨rfl, b1⟩
    go_wp2_with fail
    refine (HQ.out _ (r.below b1)).mono ?_
    rintro e w2 ⟨rfl, rfl⟩
    go_wp2
    try rw [Exit.noGoto_ret]
    go_ret
    exact ⟨by rw [HE.out]; rfl, b1⟩
  obtain ⟨hv, hp⟩ := Bool.and_eq_true_iff.1 h1
  exact KeepsDemand_yes A B C c d f t p q w h g r (vt_iff.1 hv) (vp_iff.1 hp) (vp_iff.1 h3)

theorem KeepsDemand_both (t p q : List Int) (hl : t.length ≤ 1048576) (gl : p.length ≤ 1048576) (rl : q.length ≤ 1048576) : ∃ v,
    (∀ A c B d C f w, Rd w A c t → Rd w B d p → Rd w C f q → Calls Try.prog 35 #[.slice A t.length c, .slice B p.length d, .slice C q.length f] w fun e w' => e = .returned (.bool v) ∧ Below w.heap.size w w') ∧
    (∀ A c B d C f w, Rd w A c t → Rd w B d p → Rd w C f q → Calls Try.prog 33 #[.slice A t.length c, .slice B p.length d, .slice C q.length f] w fun e w' => e = .returned (.bool v) ∧ Below w.heap.size w w') :=
  ⟨kdB t p q, fun A c B d C f w h g r => SKeepsDemand_any A B C c d f t p q w h g r (by omega) (by omega) (by omega),
    fun A c B d C f w h g r => KeepsDemand_any A B C c d f t p q w h g r (by omega)⟩

end Go.Proofs.Ytfjncipekjnbjaa
