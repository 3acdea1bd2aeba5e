/-
  Chapter 7: whether all bidders can be served, by the program.
-/
import Derived.Test.YtccbjgajmjcpjabG17
import Derived.Test.YtccbjgajmjcpjabG08
import Derived.Test.YtccbjgajmjcpjabG27
import Derived.Test.YtccbjgajmjcpjabG34
import Derived.Test.YtccbjgajmjcpjabG36
import Derived.Test.YtccbjgajmjcpjabG03
import Derived.Test.YtccbjgajmjcpjabG11
namespace Go.Proofs.Ytccbjgajmjcpjab
open Go.RowKit

/-- Whether each bidder can have one of the wanted sets. -/
def svA : List (List Int) → Nat → Nat → Bool
  | [], l, f => (l - (l &&& f)) == 0
  | d :: ds, l, f => d.any (fun s => ((s.toNat - (s.toNat &&& l)) == 0) && svA ds (l - (l &&& s.toNat)) f)
/-- What one of the sets tells. -/
def svO (ds : List (List Int)) (l f : Nat) (s : Int) : Bool := ((s.toNat - (s.toNat &&& l)) == 0) && svA ds (l - (l &&& s.toNat)) f
theorem svA_cons (d : List Int) (ds : List (List Int)) (l f : Nat) : svA (d :: ds) l f = d.any (svO ds l f) := rfl
def NoO (d : List Int) (ds : List (List Int)) (l f k : Nat) : Prop := (d.take k).any (svO ds l f) = false
theorem NoO.next {d : List Int} {ds : List (List Int)} {l f k : Nat} {s : Int} (h : NoO d ds l f k) (hs : d[k]? = some s) (hn : svO ds l f s = false) : NoO d ds l f (k + 1) := by
  unfold NoO at h ⊢
  rw [List.take_add_one, hs, List.any_append, h]
  simp [hn]
theorem NoO.all {d : List Int} {ds : List (List Int)} {l f : Nat} (h : NoO d ds l f d.length) : svA (d :: ds) l f = false := by
  unfold NoO at h
  rw [List.take_length] at h
  exact h
theorem svO_yes {d : List Int} {ds : List (List Int)} {l f k : Nat} {s : Int} (hs : d[k]? = some s) (h : svO ds l f s = true) : svA (d :: ds) l f = true := List.any_eq_true.2 ⟨s, List.mem_of_getElem? hs, h⟩

set_option maxRecDepth 100000 in
set_option maxHeartbeats 1600000 in
theorem servesAll_any : ∀ (ds : List (List Int)) (A : Option Addr) (c l f : Nat) (w : World), RdR w A c ds → (∀ d ∈ ds, d.length ≤ 8 ∧ ∀ x ∈ d, ∃ s : Nat, x = (s : Int) ∧ s < 8) → ds.length ≤ 4 → l < 8 → f < 8 →
    Calls Try.prog 84 #[.slice A ds.length c, .int .i64 (l : Int), .int .i64 (f : Int)] w fun e w' => e = .returned (.bool (svA ds l f)) ∧ ∃ n, w' = w.drewN n := by
  intro ds
  induction ds with
  | nil =>
    intro A c l f w h _ _ hl hf
    have e0 := andNot_nat hl hf
    obtain ⟨X, hX⟩ : ∃ X, X = l - (l &&& f) := ⟨_, rfl⟩
    have HE : Hid (svA [] l f = (X == 0)) := Lib.hid (by rw [hX]; rfl)
    rw [← hX] at e0
    have hq : ((X : Int) == 0) = (X == 0) := by rw [Bool.eq_iff_iff]; simp
    clear hX
    rcases hb : (X == 0) with _ | _
    · rw [hb] at hq
      go_enter Try.func84, Try.ntmps84
      go_wp2
      go_ret
      exact ⟨by rw [HE.out, hb]; rfl, 0, rfl⟩
    · rw [hb] at hq
      go_enter Try.func84, Try.ntmps84
      go_wp2
      go_ret
      exact ⟨by rw [HE.out, hb]; rfl, 0, rfl⟩
  | cons d ds ih =>
    intro A c l f w h hd hl4 hl hf
    have HIH := Lib.hid (fun (A : Option Addr) (c l : Nat) (w : World) (h : RdR w A c ds) (hl : l < 8) => ih A c l f w h (fun t ht => hd t (by simp [ht])) (by simp at hl4; omega) hl hf)
    clear ih
    obtain ⟨hd8, hds⟩ := hd d (by simp)
    have HDS := Lib.hid hds
    obtain ⟨b, off, hA, hcl, hrows⟩ := h.open_ (by simp)
    subst hA
    obtain ⟨A0, c0, hc0, hcap0, hrd0⟩ := hrows 0 d rfl
    rw [Nat.add_zero] at hc0
    have HRD0 := Lib.hid hrd0
    have HD := Lib.hid (fun (hc2 : 2 ≤ c) => (h.drop_ (c2 := c - 1) 1 (by simp; simp at hcl; omega) : RdR w (some ⟨b, off + 1, none⟩) (c - 1) ds))
    have HD1 := Lib.hid (fun (hc2 : c = 1) => show RdR w (some ⟨b, off, none⟩) 0 ds from by
      have : ds = [] := by have : ds.length = 0 := by simp at hcl; omega
                           exact List.eq_nil_of_length_eq_zero this
      rw [this]; exact ⟨by simp, .inl ⟨rfl, fun h => by cases h⟩⟩)
    have hc1 : 1 ≤ c := by simp at hcl; omega
    have hdl : ds.length ≤ 3 := by simp at hl4; omega
    clear hd hl4 hrows hcap0 hrd0 h hcl hds
    rw [show (d :: ds).length = ds.length + 1 from rfl]
    have hne : ((ds.length : Int) + 1 == 0) = false := by simp; omega
    have hl0 : (0 : Int) ≤ (l : Int) := by omega
    obtain ⟨LD, hLD⟩ : ∃ LD, LD = d.length := ⟨_, rfl⟩
    have HLD := Lib.hid hLD
    rw [← hLD] at hc0 hd8
    clear hLD
    go_enter Try.func84, Try.ntmps84
    go_wp2_with fail
    go_loopw [20] (fun iv wr => ∃ k m : Nat, k ≤ LD ∧ iv = .int .i64 (k : Int) ∧ wr = w.drewN m ∧ Hid (NoO d ds l f k)) (fun iv _ => LD - (intOf iv).toNat)
    case atStart => exact ⟨0, 0, by omega, rfl, rfl, Lib.hid (by simp [NoO])⟩
    case round =>
      obtain ⟨k, m, hk, rfl, rfl, HN⟩ := hrel
      by_cases hlt : k < LD
      · obtain ⟨b1, off1, x, rfl, _, hx, hcx⟩ := HRD0.out.at_ (k := k) (by rw [← HLD.out]; exact hlt)
        obtain ⟨s, rfl, hs8⟩ := HDS.out x (List.mem_of_getElem? hx.out)
        have e1 := andNot_nat hs8 hl
        have e2 := andNot_nat hl hs8
        have HNX := Lib.hid (fun (hn : svO ds l f (s : Int) = false) => HN.out.next hx.out hn)
        have HYE := Lib.hid (fun (hy : svO ds l f (s : Int) = true) => svO_yes hx.out hy)
        have HSO : Hid (svO ds l f (s : Int) = (((s - (s &&& l)) == 0) && svA ds (l - (l &&& s)) f)) := Lib.hid rfl
        have hr8 : l - (l &&& s) < 8 := Nat.lt_of_le_of_lt (Nat.sub_le _ _) hl
        have HC2 := Lib.hid (fun (hc2 : 2 ≤ c) => HIH.out (some ⟨b, off + 1, none⟩) (c - 1) (l - (l &&& s)) (w.drewN m) ((HD.out hc2).drewN _) hr8)
        have HC1 := Lib.hid (fun (hc2 : c = 1) => HIH.out (some ⟨b, off, none⟩) 0 (l - (l &&& s)) (w.drewN m) ((HD1.out hc2).drewN _) hr8)
        obtain ⟨X, hX⟩ : ∃ X, X = s - (s &&& l) := ⟨_, rfl⟩
        obtain ⟨Y, hY⟩ : ∃ Y, Y = l - (l &&& s) := ⟨_, rfl⟩
        obtain ⟨v, hv⟩ : ∃ v, v = svA ds Y f := ⟨_, rfl⟩
        rw [← hX] at e1 HSO
        rw [← hY] at e2 HSO HC1 HC2
        rw [← hv] at HSO HC1 HC2
        have hk1 : k + 1 ≤ LD := hlt
        have hkl : (k : Int) < (LD : Int) := by omega
        clear hX hY hv hx hlt hr8
        rcases hb : (X == 0) with _ | _
        · have hq : ((X : Int) == 0) = false := by rw [← hb]; rw [Bool.eq_iff_iff]; simp
          have HN' := Lib.hid (HNX.out (by rw [HSO.out, hb]; rfl))
          clear hb HSO HNX HYE HC1 HC2
          go_wp2
          go_roundw
          case rel => exact ⟨k + 1, _, hk1, by go_num, rfl, HN'⟩
          case measure => simp [intOf]; omega
        · have hq : ((X : Int) == 0) = true := by rw [← hb]; rw [Bool.eq_iff_iff]; simp
          cases v with
          | false =>
            have HN' := Lib.hid (HNX.out (by rw [HSO.out, hb]; rfl))
            clear hb HSO HNX HYE
            by_cases hc2 : 2 ≤ c
            · have HC := Lib.hid (HC2.out hc2)
              obtain ⟨e, rfl⟩ : ∃ e, c = e + 2 := ⟨c - 2, by omega⟩
              clear HC1 HC2 HIH HD HD1 hc2
              go_wp2_with fail
              refine HC.out.mono ?_
              rintro e9 w9 ⟨rfl, q, rfl⟩
              go_wp2
              go_roundw
              case rel => exact ⟨k + 1, _, hk1, by go_num, rfl, HN'⟩
              case measure => simp [intOf]; omega
            · obtain rfl : c = 1 := by omega
              have HC := Lib.hid (HC1.out rfl)
              clear HC1 HC2 HIH HD HD1 hc2
              go_wp2_with fail
              refine HC.out.mono ?_
              rintro e9 w9 ⟨rfl, q, rfl⟩
              go_wp2
              go_roundw
              case rel => exact ⟨k + 1, _, hk1, by go_num, rfl, HN'⟩
              case measure => simp [intOf]; omega
          | true =>
            have HE := Lib.hid (HYE.out (by rw [HSO.out, hb]; rfl))
            clear hb HSO HNX HYE
            by_cases hc2 : 2 ≤ c
            · have HC := Lib.hid (HC2.out hc2)
              obtain ⟨e, rfl⟩ : ∃ e, c = e + 2 := ⟨c - 2, by omega⟩
              clear HC1 HC2 HIH HD HD1 hc2
              go_wp2_with fail
              refine HC.out.mono ?_
              rintro e9 w9 ⟨rfl, q, rfl⟩
              go_wp2
              go_ret
              exact ⟨by rw [HE.out]; rfl, _, rfl⟩
            · obtain rfl : c = 1 := by omega
              have HC := Lib.hid (HC1.out rfl)
              clear HC1 HC2 HIH HD HD1 hc2
              go_wp2_with fail
              refine HC.out.mono ?_
              rintro e9 w9 ⟨rfl, q, rfl⟩
              go_wp2
              go_ret
              exact ⟨by rw [HE.out]; rfl, _, rfl⟩
      · obtain rfl : k = LD := by omega
        have HE : Hid (svA (d :: ds) l f = false) := Lib.hid (by have := HN.out; rw [HLD.out] at this; exact this.all)
        go_wp2
        go_ret
        exact ⟨by rw [HE.out]; rfl, _, rfl⟩

end Go.Proofs.Ytccbjgajmjcpjab

/-
  Chapter 7: whether the wanted sets of all bidders can be served, plain.
-/
namespace Go.Proofs.Ytccbjgajmjcpjab
open Go.RowKit

theorem sub_iff {l s : Nat} (hs : s < 8) : s ∈ subs l ↔ (s - (s &&& l) == 0) = true := by
  have hle : s &&& l ≤ s := Nat.and_le_left
  constructor
  · intro h; rw [subs_and h]; simp
  · intro h
    have h1 : s - (s &&& l) = 0 := by simpa using h
    have h2 : s &&& l = s := by omega
    simp [subs, hs, h2]
theorem svA_iff {p : List Int} {f : Nat} : ∀ {ts : List (List Int)} {X : Nat}, X < 8 → (∀ Y, Y < 8 → ((Y - (Y &&& f) == 0) = true ↔ pr p Y = 0)) → (svA (ts.map (fun t => dm t p)) X f = true ↔ Clr ts p X) := by
  intro ts
  induction ts with
  | nil => intro X hX hf; exact hf X hX
  | cons t ts ih =>
    intro X hX hf
    rw [List.map_cons, svA_cons, List.any_eq_true]
    constructor
    · rintro ⟨x, hx, h⟩
      obtain ⟨s, rfl, hs8, he⟩ := dm_mem.1 hx
      unfold svO at h
      obtain ⟨h1, h2⟩ := Bool.and_eq_true_iff.1 h
      rw [Int.toNat_natCast] at h1 h2
      have hs := (sub_iff hs8).2 h1
      rw [Nat.and_comm, subs_and hs] at h2
      exact ⟨s, hs, he, (ih (sub_lt hX hs) hf).1 h2⟩
    · rintro ⟨s, hs, he, h2⟩
      have hs8 := subs_lt hs
      refine ⟨(s : Int), dm_mem.2 ⟨s, rfl, hs8, he⟩, ?_⟩
      unfold svO
      rw [Int.toNat_natCast]
      refine Bool.and_eq_true_iff.2 ⟨(sub_iff hs8).1 hs, ?_⟩
      rw [Nat.and_comm, subs_and hs]
      exact (ih (sub_lt hX hs) hf).2 h2
theorem free_iff {p : List Int} (hp : VP p) : ∀ Y, Y < 8 → ((Y - (Y &&& sm p [0, 0, 0]) == 0) = true ↔ pr p Y = 0) := by
  intro Y hY
  obtain ⟨a, b, c⟩ := hp.all
  obtain ⟨v0, v1, v2, v3, v4, v5, v6, v7⟩ := pr_vals p
  have z0 : T [0, 0, 0] 0 = 0 := rfl
  have z1 : T [0, 0, 0] 1 = 0 := rfl
  have z2 : T [0, 0, 0] 2 = 0 := rfl
  have hs : sm p [0, 0, 0] = (if T p 0 = 0 then 1 else 0) + (if T p 1 = 0 then 2 else 0) + (if T p 2 = 0 then 4 else 0) := by
    unfold sm
    simp only [smTo, z0, z1, z2]
    split <;> split <;> split <;> simp
  rw [hs]
  by_cases h0 : T p 0 = 0 <;> by_cases h1 : T p 1 = 0 <;> by_cases h2 : T p 2 = 0 <;> simp only [h0, h1, h2, if_true, if_false] <;>
    rcases nat8 hY with rfl | rfl | rfl | rfl | rfl | rfl | rfl | rfl <;> simp <;> omega
theorem served {ts : List (List Int)} {p : List Int} (hv : VTs ts) (hp : VP p) : svA (ts.map (fun t => dm t p)) 7 (sm p [0, 0, 0]) = true ↔ lo ts p = sv ts 7 := by
  rw [svA_iff (by omega) (free_iff hp), clr_load (fun t ht => (hv.2 t ht).2.1) hp]

end Go.Proofs.Ytccbjgajmjcpjab

/-
  Chapter 7: whether sets clear at prices, and whether some do, by the model.
-/
namespace Go.Proofs.Ytccbjgajmjcpjab
open Go.RowKit

/-- The things that go to the first k bidders. -/
def tkF (os : List Int) (k : Nat) : Nat := ge 0 (os.getD 0 0) (os.getD 1 0) (os.getD 2 0) - ge (k : Int) (os.getD 0 0) (os.getD 1 0) (os.getD 2 0)
theorem tk_zero (os : List Int) : tkF os 0 = 0 := by unfold tkF; simp
theorem tk_lt (os : List Int) (k : Nat) : tkF os k < 8 := Nat.lt_of_le_of_lt (Nat.sub_le _ _) (ge_lt _ _ _ _)
theorem part_step {G D s : Nat} (hG : G < 8) (hD : D ∈ subs G) (hs : s ∈ subs D) : (G - D) ||| s = G - (D - s) ∧ s ∈ subs (G - (D - s)) ∧ G - (D - s) - s = G - D := by
  have h := all3 (p := fun G D s => !(D &&& G == D) || !(s &&& D == s) || ((G - D) ||| s == G - (D - s) && s &&& (G - (D - s)) == s && G - (D - s) - s == G - D)) (by decide) hG (subs_lt hD) (subs_lt hs)
  simp [subs_and hD, subs_and hs] at h
  exact ⟨h.1.1, by simp [subs, subs_lt hs, h.1.2], h.2⟩
theorem tk_step (os : List Int) (k : Nat) : tkF os k ||| setOf os k = tkF os (k + 1) ∧ setOf os k ∈ subs (tkF os (k + 1)) ∧ tkF os (k + 1) - setOf os k = tkF os k := by
  obtain ⟨h1, h2⟩ := ge_step (k : Int) (os.getD 0 0) (os.getD 1 0) (os.getD 2 0)
  have hD := ge_in (x := os.getD 0 0) (y := os.getD 1 0) (z := os.getD 2 0) (show (0 : Int) ≤ (k : Int) by omega)
  have hG := ge_lt 0 (os.getD 0 0) (os.getD 1 0) (os.getD 2 0)
  obtain ⟨e1, e2, e3⟩ := part_step hG hD h1
  rw [h2] at e1 e2 e3
  have ec : ((k + 1 : Nat) : Int) = (k : Int) + 1 := by omega
  have es : setOf os k = skn (os.getD 0 0) (os.getD 1 0) (os.getD 2 0) (k : Int) := rfl
  unfold tkF
  rw [ec, es]
  exact ⟨e1, e2, e3⟩
theorem tk_pr (p os : List Int) (k : Nat) : pr p (tkF os (k + 1)) = pr p (tkF os k) + pr p (setOf os k) := by
  obtain ⟨_, h2, h3⟩ := tk_step os k
  have := pr_sub (p := p) (tk_lt os (k + 1)) h2
  rw [h3] at this
  omega
/-- The first k sets are in demand. -/
def ClTo (ts : List (List Int)) (p os : List Int) (k : Nat) : Prop := ∀ j, j < k → ∀ t, ts[j]? = some t → lf t p (setOf os j) = su t p
/-- The sets clear at the prices. -/
def ClE (ts : List (List Int)) (p os : List Int) : Prop := ClTo ts p os ts.length ∧ pr p (7 - tkF os ts.length) = 0
theorem ClTo.next {ts : List (List Int)} {p os : List Int} {k : Nat} {t : List Int} (h : ClTo ts p os k) (ht : ts[k]? = some t) (he : lf t p (setOf os k) = su t p) : ClTo ts p os (k + 1) := fun j hj u hu => by
  rcases Nat.lt_or_ge j k with h1 | h1
  · exact h j h1 u hu
  · obtain rfl : j = k := by omega
    rw [ht] at hu
    injection hu with hu
    rw [← hu]
    exact he
theorem cl_short {ts : List (List Int)} (p os : List Int) : ∀ k, k ≤ ts.length → worthF (ts.take k) os ≤ suS (ts.take k) p + pr p (tkF os k) ∧ (worthF (ts.take k) os = suS (ts.take k) p + pr p (tkF os k) ↔ ClTo ts p os k)
  | 0, _ => by
    have h0 := (pr_vals p).1
    rw [tk_zero, h0]
    simp [worthF, wk, suS, ClTo]
  | k + 1, hk => by
    obtain ⟨h1, h2⟩ := cl_short (ts := ts) p os k (by omega)
    obtain ⟨t, ht⟩ : ∃ t, ts[k]? = some t := ⟨_, List.getElem?_eq_getElem (by omega)⟩
    have e1 := worthF_step os ht
    have e2 := suS_step p ht
    have e3 := tk_pr p os k
    have e4 := su_le (t := t) (p := p) (setOf_lt os k)
    unfold lf at e4
    rw [e1, e2, e3]
    refine ⟨by omega, ?_⟩
    constructor
    · intro h
      have h3 : worthF (ts.take k) os = suS (ts.take k) p + pr p (tkF os k) := by omega
      exact (h2.1 h3).next ht (by unfold lf; omega)
    · intro h
      have h3 := h2.2 (fun j hj => h j (by omega))
      have h4 := h k (by omega) t ht
      unfold lf at h4
      omega
theorem cle_iff {ts : List (List Int)} {p os : List Int} (hp : VP p) : ClE ts p os ↔ worthF ts os = lo ts p := by
  obtain ⟨h1, h2⟩ := cl_short (ts := ts) p os ts.length (Nat.le_refl _)
  rw [List.take_length] at h1 h2
  have h3 := pr_sub (p := p) (by omega) (in7 (tk_lt os ts.length))
  have h4 := (hp.bd (Nat.lt_of_le_of_lt (Nat.sub_le 7 (tkF os ts.length)) (by omega))).1
  unfold ClE lo
  constructor
  · rintro ⟨c1, c2⟩
    have := h2.2 c1
    omega
  · intro h
    exact ⟨h2.1 (by omega), by omega⟩
noncomputable def clB (ts : List (List Int)) (p os : List Int) : Bool := @decide (ClE ts p os) (Classical.propDecidable _)
theorem clB_true {ts : List (List Int)} {p os : List Int} (h : ClE ts p os) : clB ts p os = true := by unfold clB; simp [h]
theorem clB_false {ts : List (List Int)} {p os : List Int} (h : ¬ ClE ts p os) : clB ts p os = false := by unfold clB; simp [h]
theorem clB_iff {ts : List (List Int)} {p os : List Int} : clB ts p os = true ↔ ClE ts p os := by unfold clB; simp
/-- Whether some sets clear. -/
noncomputable def icB (ts : List (List Int)) (p : List Int) : Bool := @decide (lo ts p = sv ts 7) (Classical.propDecidable _)
theorem icB_iff {ts : List (List Int)} {p : List Int} : icB ts p = true ↔ lo ts p = sv ts 7 := by unfold icB; simp
theorem ic_yes {ts : List (List Int)} {p os : List Int} (hv : VTs ts) (hp : VP p) (h : ClE ts p os) : icB ts p = true := by
  have h1 := (cle_iff hp).1 h
  have h2 := worthF_le (ts := ts) os
  have h3 := lo_ge (VTs.zeros hv.2) hp (ts := ts)
  exact icB_iff.2 (by omega)
theorem ic_no {ts : List (List Int)} {p : List Int} (hv : VTs ts) (hp : VP p) (h : ∀ os ∈ allF (ts.length : Int) (List.replicate 3 0), ¬ ClE ts p os) : icB ts p = false := by
  rcases hb : icB ts p with _ | _
  · rfl
  · have he := icB_iff.1 hb
    obtain ⟨x, y, z, hx, hy, hz, _, _, _, hw⟩ := got_wk ts 7 0 _ (by omega) (got_sv (VTs.zeros hv.2) 7)
    have hm := ways_come hv.1.2 (x := x) (y := y) (z := z) (by omega) (by omega) (by omega)
    exact absurd ((cle_iff hp).2 (by rw [he]; exact hw)) (h _ hm)

theorem SallC_any (w : World) : Calls Try.prog 113 #[] w fun e w' => e = .returned (.int .i64 7) ∧ w = w' := by
  have HP : Hid (∀ w1, Calls Try.prog 124 #[.int .i64 3] w1 fun e w' => e = .returned (.int .i64 8) ∧ w1 = w') := Lib.hid (fun w1 => Spower_any 3 (by omega) w1)
  go_enter Try.func113, Try.ntmps113
  go_wp2_with (go_at_call 124; refine (HP.out _).mono ?_; rintro e w1 ⟨rfl, rfl⟩)
  go_ret
  exact ⟨rfl, rfl⟩
theorem less7 {x : Nat} (hx : x < 8) : bits .andNot .i64 7 (x : Int) = ((7 - x : Nat) : Int) := by
  have : ∀ x, x < 8 → bits .andNot .i64 7 ((x : Nat) : Int) = ((7 - x : Nat) : Int) := by decide
  exact this x hx

set_option maxRecDepth 100000 in
set_option maxHeartbeats 1600000 in
theorem Sclears_any (A B C : Option Addr) (c d f n : Nat) (ts : List (List Int)) (p os : List Int) (w : World) (h : RdR w A c ts) (g : Rd w B d p) (r : Rd w C f (setsF os n)) (hv : ∀ t ∈ ts, VT t) (hp : VP p) (hn : ts.length = n) (hn4 : n ≤ 4) :
    Calls Try.prog 148 #[.slice A n c, .slice B 3 d, .slice C n f] w fun e w' => e = .returned (.bool (clB ts p os)) ∧ ∃ m, w' = w.drewN m := by
  have HV := Lib.hid hv
  have HP := Lib.hid hp
  have H3 := Lib.hid hp.1
  have HN := Lib.hid hn
  have HAT := Lib.hid (fun (k : Nat) (hk : k < n) => setsF_at os hk)
  have HYES := Lib.hid (fun (h1 : ClTo ts p os n) (h2 : pr p (7 - tkF os n) = 0) => clB_true (ts := ts) (p := p) (os := os) ⟨by rw [hn]; exact h1, by rw [hn]; exact h2⟩)
  have HNO1 := Lib.hid (fun (h2 : ¬ pr p (7 - tkF os n) = 0) => clB_false (ts := ts) (p := p) (os := os) (fun h => h2 (by have := h.2; rw [hn] at this; exact this)))
  have HNO2 := Lib.hid (fun (k : Nat) (t : List Int) (hk : k < n) (ht : ts[k]? = some t) (he : ¬ lf t p (setOf os k) = su t p) => clB_false (ts := ts) (p := p) (os := os) (fun h => he (h.1 k (by rw [hn]; exact hk) t ht)))
  clear hv hp hn
  go_enter Try.func148, Try.ntmps148
  go_wp2
  go_loopw [7, 8] (fun tv iv wr => ∃ k m : Nat, k ≤ n ∧ tv = .int .i64 ((tkF os k : Nat) : Int) ∧ iv = .int .i64 (k : Int) ∧ wr = w.drewN m ∧ Hid (ClTo ts p os k)) (fun _ iv _ => n - (intOf iv).toNat)
  case atStart => exact ⟨0, 0, by omega, by rw [tk_zero]; rfl, rfl, rfl, Lib.hid (fun j hj => absurd hj (by omega))⟩
  case round =>
    obtain ⟨k, m, hk, rfl, rfl, rfl, HC⟩ := hrel
    by_cases hlt : k < n
    · obtain ⟨b, off, t, A', c', rfl, ht, hc, _, hrd⟩ := h.at_ (k := k) (by rw [HN.out]; exact hlt)
      have hvt := HV.out t (List.mem_of_getElem? ht.out)
      obtain ⟨b2, off2, x, rfl, _, hx, hcx⟩ := r.at_ (k := k) (by rw [setsF_len]; exact hlt)
      have hxe : x = ((setOf os k : Nat) : Int) := by have := HAT.out k hlt; rw [hx.out] at this; injection this
      subst hxe
      have hs8 := setOf_lt os k
      obtain ⟨b3, off3, y, rfl, _, hy, hcy⟩ := hrd.out.at_ (k := setOf os k) (by rw [hvt.1]; exact hs8)
      rw [hvt.1] at hc
      have hTy := T_of hy.out
      have hyb := hvt.bd hs8
      rw [hTy] at hyb
      have hpb := HP.out.bd hs8
      have HPR := Lib.hid (fun (q : Nat) => calls_qn (w := w) (m := m) (SpriceOf_any B d p (setOf os k) (w.drewN (m + q)) (g.drewN _) HP.out hs8))
      have HSU := Lib.hid (fun (q : Nat) => calls_qn (w := w) (m := m) (Ssurplus_any (some ⟨b3, off3, none⟩) B c' d t p (w.drewN (m + q)) (hrd.out.drewN _) (g.drewN _) hvt HP.out))
      rw [hvt.1] at HSU
      rw [H3.out] at HSU HPR
      obtain ⟨ht1, _, ht3⟩ := tk_step os k
      have htk := tk_lt os k
      have horr := or_nat htk hs8
      rw [ht1] at horr
      have HNX : Hid (y - pr p (setOf os k) = su t p → ClTo ts p os (k + 1)) := Lib.hid (fun e => HC.out.next ht.out (by unfold lf; rw [hTy]; exact e))
      have HNN : Hid (¬ y - pr p (setOf os k) = su t p → clB ts p os = false) := Lib.hid (fun e => HNO2.out k t hlt ht.out (by unfold lf; rw [hTy]; exact e))
      obtain ⟨s, hS⟩ : ∃ s, s = setOf os k := ⟨_, rfl⟩
      rw [← hS] at hcx hcy hs8 HPR horr hpb HNX HNN
      obtain ⟨P, hP⟩ : ∃ P, P = pr p s := ⟨_, rfl⟩
      rw [← hP] at HPR hpb HNX HNN
      obtain ⟨M, hM⟩ : ∃ M, M = su t p := ⟨_, rfl⟩
      rw [← hM] at HSU HNX HNN
      have hs0 : (0 : Int) ≤ (s : Int) := by omega
      have hs8' : (s : Int) < 8 := by omega
      have hk0 : (0 : Int) ≤ (k : Int) := by omega
      have hkn : (k : Int) < (n : Int) := by omega
      have hk1 : k + 1 ≤ n := hlt
      have e1 : IntKind.i64.wrap (y - P) = y - P := IntWalk.i64_in _ (by omega)
      clear hS hP hM hTy hy hvt ht hrd hyb hpb hx ht1 ht3 hlt
      by_cases he : y - P = M
      · have HC' := Lib.hid (HNX.out he)
        have hq : (y - P != M) = false := by simp [he]
        clear HNX HNN he
        go_wp2_with fail
        go_quiet (first | (go_at_call 172; exact HPR.out _) | (go_at_call 157; exact HSU.out _))
        go_wp2
        go_roundw
        case rel => exact ⟨k + 1, _, hk1, by rw [← horr], by go_num, rfl, HC'⟩
        case measure => simp [intOf]; omega
      · have HE := Lib.hid (HNN.out he)
        have hq : (y - P != M) = true := by simp [he]
        clear HNX HNN he
        go_wp2_with fail
        go_quiet (first | (go_at_call 172; exact HPR.out _) | (go_at_call 157; exact HSU.out _))
        go_wp2
        go_ret
        exact ⟨by rw [HE.out]; rfl, _, World.drewN_drewN _ _ _⟩
    · obtain rfl : k = n := by omega
      have htk := tk_lt os k
      have HY := Lib.hid (HYES.out HC.out)
      have hrs : 7 - tkF os k < 8 := Nat.lt_of_le_of_lt (Nat.sub_le _ _) (by omega)
      have HPR := Lib.hid (fun W (gW : Rd W B d p) => SpriceOf_any B d p (7 - tkF os k) W gW HP.out hrs)
      rw [H3.out] at HPR
      have hno := HNO1.out
      obtain ⟨X, hX⟩ : ∃ X, X = tkF os k := ⟨_, rfl⟩
      rw [← hX] at htk HY HPR hno ⊢
      have e0 := less7 htk
      obtain ⟨Y, hY⟩ : ∃ Y, Y = 7 - X := ⟨_, rfl⟩
      rw [← hY] at e0 HY HPR hno
      obtain ⟨P, hP⟩ : ∃ P, P = pr p Y := ⟨_, rfl⟩
      rw [← hP] at HY HPR hno
      have HNN := Lib.hid hno
      clear hX hY hP hno hlt
      by_cases hz : P = 0
      · have HE := Lib.hid (HY.out hz)
        have hq : (P == 0) = true := by simp [hz]
        clear hz HY HNN
        go_wp2_with fail
        refine (SallC_any _).mono ?_
        rintro e w5 ⟨rfl, rfl⟩
        go_wp2_with fail
        refine (HPR.out _ (g.drewN _)).mono ?_
        rintro e w6 ⟨rfl, q, rfl⟩
        go_wp2
        go_ret
        exact ⟨by rw [HE.out]; rfl, _, rfl⟩
      · have HE := Lib.hid (HNN.out hz)
        have hq : (P == 0) = false := by simp [hz]
        clear hz HY HNN
        go_wp2_with fail
        refine (SallC_any _).mono ?_
        rintro e w5 ⟨rfl, rfl⟩
        go_wp2_with fail
        refine (HPR.out _ (g.drewN _)).mono ?_
        rintro e w6 ⟨rfl, q, rfl⟩
        go_wp2
        go_ret
        exact ⟨by rw [HE.out]; rfl, _, rfl⟩

end Go.Proofs.Ytccbjgajmjcpjab

/-
  Chapter 7: whether some sets clear at prices, by the model: clearing, IsClear.
-/
namespace Go.Proofs.Ytccbjgajmjcpjab
open Go.RowKit

set_option maxRecDepth 100000 in
set_option maxHeartbeats 4000000 in
theorem Sclearing_any (A B : Option Addr) (c d n : Nat) (ts : List (List Int)) (p : List Int) (w : World) (h : RdR w A c ts) (g : Rd w B d p) (hv : VTs ts) (hp : VP p) (hn : ts.length = n) :
    Calls Try.prog 86 #[.slice A n c, .slice B 3 d] w fun e w' => e = .returned (.bool (icB ts p)) ∧ Below w.heap.size w w' := by
  have hn1 : 1 ≤ n := by have := hv.1; omega
  have hn4 : n ≤ 4 := by have := hv.1; omega
  have HYES := Lib.hid (fun (os : List Int) (hc : ClE ts p os) => ic_yes hv hp hc)
  have HNO := Lib.hid (fun (L : List (List Int)) (hd : DoneTo n L none) (hc : ∀ os ∈ L, ¬ ClE ts p os) => ic_no hv hp (by rw [hn]; have hd' : allF (n : Int) (List.replicate 3 0) = L := hd; rw [hd']; exact hc))
  have HCL := Lib.hid (fun (C : Option Addr) (f : Nat) (os : List Int) (W : World) (h : RdR W A c ts) (g : Rd W B d p) (r : Rd W C f (setsF os n)) => Sclears_any A B C c d f n ts p os W h g r hv.2 hp hn hn4)
  clear hv hp hn
  go_enter Try.func86, Try.ntmps86
  go_wp2_with (at_make; refine wpList_make_ints rfl _ _ rfl w.heap.size 3 rfl rfl (by omega) (Nat.le_refl _) ?_; intro w1 o1 b1)
  have OY0 : Hid (Own w1 w.heap.size (some ⟨w.heap.size, 0, none⟩) 3 (List.replicate 3 0)) := Lib.hid o1
  clear o1
  go_loopw [6] (fun ow wr => ∃ (L : List (List Int)), Below w.heap.size w wr ∧ Hid (∀ os ∈ L, ¬ ClE ts p os) ∧
      ((∃ g c ys, ow = .slice (some ⟨g, 0, none⟩) 3 c ∧ Hid (Own wr w.heap.size (some ⟨g, 0, none⟩) c ys) ∧ Hid (StL n L ys)) ∨ (ow = .slice none 0 0 ∧ Hid (DoneTo n L none))))
    (fun ow wr => roundsLeft n wr ow)
  case atStart => exact ⟨[], b1, Lib.hid (fun _ h => absurd h (by simp)), .inl ⟨_, _, List.replicate 3 0, rfl, OY0, Lib.hid (StL.start n)⟩⟩
  case round =>
    clear OY0 b1
    obtain ⟨L, hb, HNC, ⟨g1, c1, ys, rfl, HOY, HST⟩ | ⟨rfl, HD⟩⟩ := hrel
    · have hy3 := HST.out.2.1.1
      have HL := Lib.hid (left3_own (top := (n : Int)) HOY.out hy3)
      have HF := Lib.hid HST.out.2.1
      have HFB := Lib.hid HF.out.2
      have HSO := Lib.hid (SsetsOf_any (some ⟨g1, 0, none⟩) c1 n ys wr HOY.out.rd HF.out hn1 hn4)
      have hr1 := h.below hb
      have gr1 := g.below hb
      have HY3 := Lib.hid hy3
      clear hy3
      go_wp2_with fail
      refine HSO.out.mono ?_
      rintro e w2 ⟨g2, c2, rfl, o2, b2⟩
      have HB2 : Hid (Below w.heap.size w w2) := Lib.hid (hb.trans (b2.mono hb.size))
      have HC2 := Lib.hid (HCL.out (some ⟨g2, 0, none⟩) c2 ys w2 (hr1.below b2) (gr1.below b2) o2.rd)
      have HOY2 := Lib.hid (HOY.out.below b2)
      clear HOY b2 o2 HSO hr1 gr1 hb
      rcases hcb : clB ts p ys with _ | _
      · have HN1 : Hid (∀ os ∈ L ++ [ys], ¬ ClE ts p os) := Lib.hid (fun os hos => by
          rcases List.mem_append.1 hos with h1 | h1
          · exact HNC.out os h1
          · obtain rfl : os = ys := by simpa using h1
            exact fun hh => by rw [clB_true hh] at hcb; cases hcb)
        rw [hcb] at HC2
        clear hcb
        go_wp2_with fail
        refine HC2.out.mono ?_
        rintro e w3 ⟨rfl, m3, rfl⟩
        have O3 := Lib.hid (HOY2.out.drewN m3)
        have B3 := Lib.hid (below_drewN' HB2.out m3)
        clear HOY2 HC2
        go_wp2_with fail
        refine (next_n (m := 3) (some ⟨g1, 0, none⟩) c1 ys n _ HY3.out (O3.out).rd (by omega) (by omega) (by omega) HFB.out).mono ?_
        rintro e w4 (⟨zs, g3, c3, HN, rfl, o3, b4⟩ | ⟨HN, rfl, b4⟩)
        · have HS4 := Lib.hid (HST.out.next HN)
          have hz3 := HS4.out.2.1.1
          have HL3 := Lib.hid (HF.out.next HN).2
          have B4 := B3.out.trans (b4.mono B3.out.size)
          have O4 := Lib.hid (o3.base B3.out.size)
          clear HN o3 b4
          rw [hz3]
          go_wp2
          go_roundw
          case rel => exact ⟨L ++ [ys], B4, HN1, .inl ⟨g3, c3, zs, rfl, O4, HS4⟩⟩
          case measure => rw [HL.out, left3_own O4.out hz3]; have := HL3.out; omega
        · have HS4 := Lib.hid (HST.out.last HN)
          have B4 := B3.out.trans (b4.mono B3.out.size)
          clear HN b4
          go_wp2
          go_roundw
          case rel => exact ⟨L ++ [ys], B4, HN1, .inr ⟨rfl, HS4⟩⟩
          case measure => rw [HL.out, roundsLeft_nil]; omega
      · have HE := Lib.hid (HYES.out ys (clB_iff.1 hcb))
        rw [hcb] at HC2
        clear hcb
        go_wp2_with fail
        refine HC2.out.mono ?_
        rintro e w3 ⟨rfl, m3, rfl⟩
        go_wp2
        go_ret
        exact ⟨by rw [HE.out]; rfl, below_drewN' HB2.out m3⟩
    · have HE := Lib.hid (HNO.out L HD.out HNC.out)
      go_wp2
      go_ret
      exact ⟨by rw [HE.out]; rfl, hb⟩

/-- What IsClear tells. -/
noncomputable def isB (ts : List (List Int)) (p : List Int) : Bool := vtsB ts && vp p && icB ts p

set_option maxHeartbeats 800000 in
theorem SIsClear_any (A B : Option Addr) (c d : Nat) (ts : List (List Int)) (p : List Int) (w : World) (h : RdR w A c ts) (g : Rd w B d p) (hl : ts.length ≤ 1099511627776) (hl2 : ∀ r ∈ ts, r.length ≤ 1099511627776) (gl : p.length ≤ 1099511627776) :
    Calls Try.prog 26 #[.slice A ts.length c, .slice B p.length d] w fun e w' => e = .returned (.bool (isB ts p)) ∧ Below w.heap.size w w' := by
  have HV := Lib.hid (SvalidTables_any A c ts w h hl hl2)
  have HQ := Lib.hid (fun w1 (g : Rd w1 B d p) => SvalidPrices_any B d p w1 g gl)
  rcases hv : vtsB ts with _ | _
  · have HE : Hid (isB ts p = false) := Lib.hid (by unfold isB; rw [hv]; rfl)
    rw [hv] at HV
    clear hv
    go_enter Try.func26, Try.ntmps26
    go_wp2_with fail
    refine HV.out.mono ?_
    rintro e w1 ⟨rfl, n, rfl⟩
    go_wp2
    go_ret
    exact ⟨by rw [HE.out]; rfl, below_drewN' (Below.refl _ _) n⟩
  rcases hp : vp p with _ | _
  · have HE : Hid (isB ts p = false) := Lib.hid (by unfold isB; rw [hv, hp]; rfl)
    rw [hv] at HV
    rw [hp] at HQ
    clear hv hp
    go_enter Try.func26, Try.ntmps26
    go_wp2_with fail
    refine HV.out.mono ?_
    rintro e w1 ⟨rfl, n, rfl⟩
    go_wp2_with fail
    refine (HQ.out _ (g.drewN _)).mono ?_
    rintro e w1 ⟨rfl, m, rfl⟩
    go_wp2
    go_ret
    exact ⟨by rw [HE.out]; rfl, below_drewN' (Below.refl _ _) (n + m)⟩
  · have HE : Hid (isB ts p = icB ts p) := Lib.hid (by unfold isB; rw [hv, hp]; rfl)
    have hvt := vtsB_iff.1 hv
    have hvp := vp_iff.1 hp
    have HL := Lib.hid (fun w1 (h : RdR w1 A c ts) (g : Rd w1 B d p) => Sclearing_any A B c d ts.length ts p w1 h g hvt hvp rfl)
    have h3 := hvp.1
    rw [hv] at HV
    rw [hp] at HQ
    rw [h3] at HQ ⊢
    clear hv hp hvt hvp h3
    go_enter Try.func26, Try.ntmps26
    go_wp2_with fail
    refine HV.out.mono ?_
    rintro e w1 ⟨rfl, n, rfl⟩
    go_wp2_with fail
    refine (HQ.out _ (g.drewN _)).mono ?_
    rintro e w1 ⟨rfl, m, rfl⟩
    go_wp2_with fail
    refine (HL.out _ (h.drewN _) (g.drewN _)).mono ?_
    rintro e w1 ⟨rfl, b1⟩
    go_wp2
    go_ret
    exact ⟨by rw [HE.out]; simp, (below_drewN' (Below.refl _ _) (n + m)).trans b1⟩

end Go.Proofs.Ytccbjgajmjcpjab
