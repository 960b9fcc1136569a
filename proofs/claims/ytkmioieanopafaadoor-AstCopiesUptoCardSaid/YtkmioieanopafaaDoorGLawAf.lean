/- The law's within: names that are all among others, none twice. AstCopies: what its walk keeps (no program in it but an append's types). -/
import Derived.Test.YtkmioieanopafaaDoorAstM
import Derived.Test.YtkmioieanopafaaDoorHeldC
import Derived.Test.YtkmioieanopafaaDoorGSpoA
import Derived.Test.YtkmioieanopafaaDoorNamF
import Derived.Test.YtkmioieanopafaaDoorGDocA
import Derived.Test.YtkmioieanopafaaDoorLawAa
import Derived.Test.YtkmioieanopafaaDoorAstT
import Derived.Test.YtkmioieanopafaaDoorAstU
import Derived.Test.YtkmioieanopafaaDoorAstL
namespace Go.Proofs.YtkmioieanopafaaDoor
section
open Go.RowKit

theorem RowS.dropc {W : World} {ad : Addr} {n c k : Nat} {r : List (List UInt8)} (h : RowS W (some ad) n r) (hc : n ≤ c) (hk : k ≤ n) : RowS W (if c = k then some ad else some (ad.add k)) (n - k) (r.drop k) := by
  have hl := h.len
  refine ⟨by simp [strs]; omega, fun hn => ?_⟩
  rw [if_neg (by omega)]
  obtain ⟨ad0, e, hb, hr⟩ := h.2 (by omega)
  injection e with e
  subst e
  refine ⟨_, rfl, by rw [block_of_add]; exact hb, fun j u hu => ?_⟩
  rw [add_of_add]
  refine hr _ _ ?_
  have e2 : strs (r.drop k) = (strs r).drop k := by simp [strs, List.map_drop]
  rw [e2, List.getElem?_drop] at hu
  exact hu

set_option maxHeartbeats 4000000 in
theorem lawWithin6 {A B : Option Addr} {n c m d : Nat} {r s : List (List UInt8)} {w : World} (h : RowS w A n r) (h' : RowS w B m s) (hc : n ≤ c) (hn : n ≤ 4611686018427387904) (hm : m ≤ 4611686018427387904) (hin : ∀ t ∈ r, t ∈ s) (hnd : r.Nodup) :
    Calls Tryd.prog 38 #[.slice A n c, .slice B m d] w fun e w' => e = .returned (.bool true) ∧ Below w.heap.size w w' := by
  have hl := Lib.hid h.len
  have hx := Lib.hid (And.intro h h')
  have HC := Lib.hid hc
  have HI := Lib.hid hin
  have HN := Lib.hid hnd
  clear h h' hc hin hnd
  go_enter Tryd.func38, Tryd.ntmps38
  go_wp2_with fail
  go_loopw [5] (fun v W => ∃ i : Nat, i ≤ n ∧ v = .int .i64 i ∧ Hid (Below w.heap.size w W)) (fun v _ => n - (intOf v).toNat)
  case atStart => exact ⟨0, by omega, rfl, Below.refl _ _⟩
  case round =>
    obtain ⟨i, hi, rfl, hb⟩ := hrel
    by_cases hlt : i < n
    · have hlt' : (i : Int) < n := by omega
      have hK : Hid (RowS wr.drew A n r ∧ RowS wr.drew B m s) := ⟨hx.out.1.below hb.out.drew, hx.out.2.below hb.out.drew⟩
      have hb2 := Lib.hid hb.out.drew
      obtain ⟨ad, t, rfl, ht, hc1⟩ := hK.out.1.at_ hlt
      have hq1 := Lib.hid (lawHas6 (c := d) t hK.out.2 hm)
      have e1 : s.contains t = true := by
        rw [List.contains_iff_mem]
        exact HI.out t (List.mem_iff_getElem?.2 ⟨i, ht⟩)
      rw [e1] at hq1
      have hdr := Lib.hid (hK.out.1.dropc HC.out (show i + 1 ≤ n by omega))
      have hq2 := Lib.hid (fun A' n' c' (h1 : RowS wr.drew A' n' (r.drop (i + 1))) (h2 : n' ≤ 4611686018427387904) => lawHas6 (c := c') t h1 h2)
      have e2 : (r.drop (i + 1)).contains t = false := by
        rw [Bool.eq_false_iff]
        intro hh
        rw [List.contains_iff_mem] at hh
        obtain ⟨j, hj⟩ := List.mem_iff_getElem?.1 hh
        rw [List.getElem?_drop] at hj
        obtain ⟨k1, g1⟩ := List.getElem?_eq_some_iff.1 ht
        obtain ⟨k2, g2⟩ := List.getElem?_eq_some_iff.1 hj
        exact (List.pairwise_iff_getElem.1 HN.out) i (i + 1 + j) k1 k2 (by omega) (g1.trans g2.symm)
      rw [e2] at hq2
      clear hK e1 e2 ht hb
      generalize (⟨t.toArray⟩ : ByteArray) = xs at *
      have hw1 : IntKind.i64.wrap ((i : Int) + 1) = (i : Int) + 1 := wrap_small _ (by omega) (by omega)
      have hz1 : (0 : Int) ≤ (i : Int) + 1 := by omega
      have hz2 : (i : Int) + 1 ≤ (n : Int) := by omega
      rcases Nat.decEq c (i + 1) with hci | hci
      · have hci' : (c = i + 1) = False := eq_false hci
        clear hci
        go_wp2_with fail
        go_region_held3 (fun w' => w'.cell? (ad.add i) = some (.string xs)) (with_reducible exact hc1)
          (first
            | (go_at_call 80
               with_reducible refine hq1.out.mono ?_
               rintro e V1 ⟨rfl, rfl⟩
               clear hq1)
            | (go_at_call 80
               with_reducible refine (hq2.out _ _ _ ?_ ?_).mono ?_
               · have h9 := hdr.out; simp only [hci', if_false] at h9; first | exact h9 | simpa [Addr.add] using h9
               · omega
               rintro e V1 ⟨rfl, rfl⟩))
        go_wp2_with fail
        exact ⟨⟨i + 1, by omega, by go_num, hb2⟩, by simp [intOf]; omega⟩
      · have hci' : (c = i + 1) = True := eq_true hci
        clear hci
        go_wp2_with fail
        go_region_held3 (fun w' => w'.cell? (ad.add i) = some (.string xs)) (with_reducible exact hc1)
          (first
            | (go_at_call 80
               with_reducible refine hq1.out.mono ?_
               rintro e V1 ⟨rfl, rfl⟩
               clear hq1)
            | (go_at_call 80
               with_reducible refine (hq2.out _ _ _ ?_ ?_).mono ?_
               · have h9 := hdr.out; simp only [hci', if_true] at h9; first | exact h9 | simpa [Addr.add] using h9
               · omega
               rintro e V1 ⟨rfl, rfl⟩))
        go_wp2_with fail
        exact ⟨⟨i + 1, by omega, by go_num, hb2⟩, by simp [intOf]; omega⟩
    · obtain rfl : i = n := by omega
      have hlt' : ¬ (i : Int) < i := by omega
      go_wp2_with fail
      go_ret
      exact ⟨rfl, hb.out⟩
end

section
open Go.RowKit

/-- The program that came in, in its box. -/
structure CA (w : World) (A : Option Addr) (n c : Nat) (B : Option Addr) (m d : Nat) (ds : List DV) (mn : List SV) (W : World) : Prop where
  l : LaidA W
  b : Below w.heap.size w W
  bp : Box W w.heap.size [.slice A n c, .slice B m d]
  dp : DR W A ds
  sp : SR W B mn
/-- And its plain copy. -/
structure CR (w : World) (A : Option Addr) (n c : Nat) (B : Option Addr) (m d : Nat) (ds : List DV) (mn : List SV) (g5 : Nat) (B1 : Option Addr) (d1 : Nat) (B2 : Option Addr) (d2 : Nat) (W : World) : Prop where
  k : CA w A n c B m d ds mn W
  b5 : Box W g5 [.slice B1 n d1, .slice B2 m d2]
  dr : DR W B1 ds
  sr : SR W B2 mn
/-- And the copy that will be written. -/
structure CC (w : World) (A : Option Addr) (n c : Nat) (B : Option Addr) (m d : Nat) (ds : List DV) (mn : List SV) (W1 : World) (g6 : Nat) (C1 : Option Addr) (e1 : Nat) (C2 : Option Addr) (e2 : Nat) (m1 hi : Nat) (W : World) : Prop where
  k : CA w A n c B m d ds mn W
  b1 : Below W1.heap.size W1 W
  bc : Box W g6 [.slice C1 n e1, .slice C2 m e2]
  dc : DO W W1.heap.size m1 C1 ds
  sc : SO W m1 hi C2 mn
  o : W1.heap.size ≤ m1 ∧ m1 ≤ hi ∧ hi ≤ W.heap.size
section
variable {w : World} {A : Option Addr} {n c : Nat} {B : Option Addr} {m d : Nat} {ds : List DV} {mn : List SV} {g5 : Nat} {B1 : Option Addr} {d1 : Nat} {B2 : Option Addr} {d2 : Nat} {W1 : World} {g6 : Nat} {C1 : Option Addr} {e1 : Nat} {C2 : Option Addr} {e2 : Nat} {m1 hi : Nat} {W W' : World}
theorem CA.step (h : CA w A n c B m d ds mn W) (hb : Below W.heap.size W W') : CA w A n c B m d ds mn W' := ⟨h.l.step hb, bth5 h.b hb, h.bp.step hb, h.dp.step hb, h.sp.step hb⟩
theorem CA.new (hL : LaidA w) (hx : DR w A ds) (hy : SR w B mn) (T : TypeId) : CA w A n c B m d ds mn (w.alloc (.cells #[.slice A n c, .slice B m d] T)) := ⟨hL.step (bnew5 _ _), bnew5 _ _, Box.new w [.slice A n c, .slice B m d] T, hx.step (bnew5 _ _), hy.step (bnew5 _ _)⟩
theorem CR.step (h : CR w A n c B m d ds mn g5 B1 d1 B2 d2 W) (hb : Below W.heap.size W W') : CR w A n c B m d ds mn g5 B1 d1 B2 d2 W' := ⟨h.k.step hb, h.b5.step hb, h.dr.step hb, h.sr.step hb⟩
theorem CC.step (h : CC w A n c B m d ds mn W1 g6 C1 e1 C2 e2 m1 hi W) (hb : Below W.heap.size W W') : CC w A n c B m d ds mn W1 g6 C1 e1 C2 e2 m1 hi W' := by
  obtain ⟨o1, o2, o3⟩ := h.o
  exact ⟨h.k.step hb, bth5 h.b1 hb, h.bc.step hb, h.dc.keep (Kp.of_below hb (by omega)), h.sc.keep (Kp.of_below hb o3), o1, o2, Nat.le_trans o3 hb.size⟩
theorem CA.cells (h : CA w A n c B m d ds mn W) : W.cell? ⟨w.heap.size, 0, none⟩ = some (.slice A n c) ∧ W.cell? ⟨w.heap.size, 1, none⟩ = some (.slice B m d) := ⟨(h.bp 0 _ rfl).1, (h.bp 1 _ rfl).1⟩
theorem CR.cells (h : CR w A n c B m d ds mn g5 B1 d1 B2 d2 W) : W.cell? ⟨w.heap.size, 0, none⟩ = some (.slice A n c) ∧ W.cell? ⟨w.heap.size, 1, none⟩ = some (.slice B m d) ∧ W.cell? ⟨g5, 0, none⟩ = some (.slice B1 n d1) ∧ W.cell? ⟨g5, 1, none⟩ = some (.slice B2 m d2) := ⟨(h.k.bp 0 _ rfl).1, (h.k.bp 1 _ rfl).1, (h.b5 0 _ rfl).1, (h.b5 1 _ rfl).1⟩
theorem CC.cells (h : CC w A n c B m d ds mn W1 g6 C1 e1 C2 e2 m1 hi W) : W.cell? ⟨w.heap.size, 0, none⟩ = some (.slice A n c) ∧ W.cell? ⟨w.heap.size, 1, none⟩ = some (.slice B m d) ∧ W.cell? ⟨g6, 0, none⟩ = some (.slice C1 n e1) ∧ W.cell? ⟨g6, 1, none⟩ = some (.slice C2 m e2) := ⟨(h.k.bp 0 _ rfl).1, (h.k.bp 1 _ rfl).1, (h.bc 0 _ rfl).1, (h.bc 1 _ rfl).1⟩
end
theorem same_refl6 (ds : List DV) (mn : List SV) : (smd ds ds && smy mn mn) = true := by rw [smd_refl, smy_refl]; rfl
theorem op6_back : ∀ q : Int, 0 ≤ q → q < 21 → op6 (txt6 q) (one6 q) = (q, true) := fun q h0 h1 => by
  obtain ⟨k, rfl⟩ : ∃ k : Nat, q = k := ⟨q.toNat, by omega⟩
  have : ∀ k : Fin 21, op6 (txt6 (k.val : Nat)) (one6 (k.val : Nat)) = (((k.val : Nat) : Int), true) := by decide
  exact this ⟨k, by omega⟩
/-- The rows of names, one statement behind the other. -/
def flN (wt : Int) (mn : List SV) (i : Nat) : List (List UInt8) := (mn.take i).flatMap fun s => nmN wt [s]
theorem flN_succ {wt : Int} {mn : List SV} {i : Nat} {s : SV} (h : mn[i]? = some s) : flN wt mn (i + 1) = flN wt mn i ++ nmN wt [s] := by
  unfold flN
  rw [List.take_add_one, h]
  simp
theorem fl_len (wt : Int) : ∀ l : List SV, (l.flatMap fun s => nmN wt [s]).length ≤ sbk l
  | [] => by simp
  | s :: r => by
    have h1 := fl_len wt r
    have h2 := nmN_len wt [s]
    simp only [sbk] at h2 ⊢
    rw [List.flatMap_cons, List.length_append]
    omega
theorem sbk_take (l : List SV) (i : Nat) : sbk (l.take i) ≤ sbk l := by
  induction l generalizing i with
  | nil => simp
  | cons s r ih =>
    cases i with
    | zero => simp [sbk]
    | succ i =>
      simp only [List.take_succ_cons, sbk]
      have := ih i
      omega
theorem flN_len (wt : Int) (mn : List SV) (i : Nat) : (flN wt mn i).length ≤ sbk mn := Nat.le_trans (fl_len wt _) (sbk_take mn i)
theorem flN_in {wt : Int} {mn : List SV} {t : List UInt8} : t ∈ flN wt mn mn.length ↔ t ∈ nmN wt mn := by
  unfold flN
  rw [List.take_length, nmN_mem, List.mem_flatMap]

/-- Three rows of the call's own that grow, in turn. -/
structure G3 (w : World) (va vb vd : Value) (ra rb rd : List (List UInt8)) (W : World) : Prop where
  a : W.ownsRow w.heap.size 9 1 va ra.length (strs ra)
  b : W.ownsRow w.heap.size 9 1 vb rb.length (strs rb)
  d : W.ownsRow w.heap.size 9 1 vd rd.length (strs rd)
  ab : ∀ g, va.ownBlock = some g → vb.ownBlock ≠ some g
  ad : ∀ g, va.ownBlock = some g → vd.ownBlock ≠ some g
  bd : ∀ g, vb.ownBlock = some g → vd.ownBlock ≠ some g
  l : Below w.heap.size w W
section
variable {w W W' : World} {va vb vd : Value} {ra rb rd : List (List UInt8)}
theorem G3.start (w : World) : G3 w (.slice none 0 0) (.slice none 0 0) (.slice none 0 0) [] [] [] w := ⟨World.ownsRow_nil _ _ _ _, World.ownsRow_nil _ _ _ _, World.ownsRow_nil _ _ _ _, fun _ h => by simp [Value.ownBlock] at h, fun _ h => by simp [Value.ownBlock] at h, fun _ h => by simp [Value.ownBlock] at h, Below.refl _ _⟩
theorem G3.step (h : G3 w va vb vd ra rb rd W) (hb : Below W.heap.size W W') : G3 w va vb vd ra rb rd W' := ⟨own_below h.a hb, own_below h.b hb, own_below h.d hb, h.ab, h.ad, h.bd, bth5 h.l hb⟩
theorem G3.rot (h : G3 w va vb vd ra rb rd W) : G3 w vb vd va rb rd ra W := ⟨h.b, h.d, h.a, h.bd, fun g hg e => h.ab g e hg, fun g hg e => h.ad g e hg, h.l⟩
theorem G3.push (h : G3 w va vb vd ra rb rd W) {A : Option Addr} {c : Nat} {s : List (List UInt8)} (hr : RowS W A s.length s) (hlen : ra.length + s.length ≤ 4000000) :
    ∃ v' W', (Builtin.append_ #[28, 28] 28 #[va, .slice A s.length c]).run Tryd.prog W = .ok v' W' ∧ G3 w v' vb vd (ra ++ s) rb rd W' := by
  obtain ⟨i0, hi, hz0, hz1, hz2⟩ := info_parts info_str
  obtain ⟨v', W', hrun, hown, hgrow, hat⟩ := run_append_any (P := Tryd.prog) W w.heap.size 28 28 9 i0 (.string ByteArray.empty) 1 16 Tryd.underlying28 hi hz0 hz1 hz2 rfl (by decide) va ra.length (strs ra) h.a W.heap.size A s.length c (strs s) hr (strs_oneCell s) (by unfold maxLen; omega) (by omega) h.l.size
  have hne : ∀ v : Value, (∀ g, va.ownBlock = some g → v.ownBlock ≠ some g) → v.ownBlock = none ∨ v.ownBlock ≠ va.ownBlock := fun v hv => by
    cases e : va.ownBlock with
    | none => cases e2 : v.ownBlock with
      | none => exact Or.inl rfl
      | some g => exact Or.inr (by simp)
    | some g => exact Or.inr (hv g e)
  have hnw : ∀ (v : Value) (r : List (List UInt8)), W.ownsRow w.heap.size 9 1 v r.length (strs r) → (∀ g, va.ownBlock = some g → v.ownBlock ≠ some g) → ∀ g, v'.ownBlock = some g → v.ownBlock ≠ some g := fun v r ho hv g hg => by
    rcases hat with hat | hat
    · rw [hat] at hg
      exact hv g hg
    · rw [hat] at hg
      injection hg with hg
      intro e
      have := (own_lt ho g e).2
      omega
  refine ⟨v', W', hrun, ⟨?_, h.b.kept hgrow (hne vb h.ab), h.d.kept hgrow (hne vd h.ad), hnw vb rb h.b h.ab, hnw vd rd h.d h.ad, h.bd, ?_⟩⟩
  · have e : strs (ra ++ s) = strs ra ++ strs s := by simp [strs]
    rw [e, List.length_append]
    exact hown
  · cases e : va.ownBlock with
    | none =>
      rw [e] at hgrow
      exact h.l.grown hgrow h.l.size (by simp)
    | some g =>
      rw [e] at hgrow
      exact h.l.grown hgrow h.l.size (by rintro k hk; injection hk with hk; subst hk; exact (own_lt h.a _ e).1)
theorem NamP.rowc {l : List (List UInt8)} {v : Value} {B : Nat} (h : W.ownsRow B 9 1 v l.length (strs l)) : ∃ A c, v = .slice A l.length c ∧ l.length ≤ c ∧ RowS W A l.length l := by
  rcases h.2 with ⟨rfl, h0⟩ | ⟨g, cap, cur, rfl, _, hgb, hl, _⟩
  · rw [h0]
    have : l = [] := List.eq_nil_of_length_eq_zero h0
    subst this
    exact ⟨none, 0, rfl, Nat.le_refl _, by simp [strs], fun h => absurd h (by simp)⟩
  · have hh : World.ownsRow W B 9 1 (.slice (some ⟨g, 0, none⟩) l.length cap) l.length (strs l) := h
    exact ⟨_, cap, rfl, hl, Reads.of_own hh⟩
end
/-- Six rows that read as texts. -/
structure R6 (A7 : Option Addr) (n7 : Nat) (l0 : List (List UInt8)) (A8 : Option Addr) (n8 : Nat) (l1 : List (List UInt8)) (A9 : Option Addr) (n9 : Nat) (l2 : List (List UInt8)) (A10 : Option Addr) (n10 : Nat) (f0 : List (List UInt8)) (A11 : Option Addr) (n11 : Nat) (f1 : List (List UInt8)) (A12 : Option Addr) (n12 : Nat) (f2 : List (List UInt8)) (W : World) : Prop where
  x7 : RowS W A7 n7 l0
  x8 : RowS W A8 n8 l1
  x9 : RowS W A9 n9 l2
  x10 : RowS W A10 n10 f0
  x11 : RowS W A11 n11 f1
  x12 : RowS W A12 n12 f2
theorem R6.step {A7 : Option Addr} {n7 : Nat} {l0 : List (List UInt8)} {A8 : Option Addr} {n8 : Nat} {l1 : List (List UInt8)} {A9 : Option Addr} {n9 : Nat} {l2 : List (List UInt8)} {A10 : Option Addr} {n10 : Nat} {f0 : List (List UInt8)} {A11 : Option Addr} {n11 : Nat} {f1 : List (List UInt8)} {A12 : Option Addr} {n12 : Nat} {f2 : List (List UInt8)} {W W' : World} (h : R6 A7 n7 l0 A8 n8 l1 A9 n9 l2 A10 n10 f0 A11 n11 f1 A12 n12 f2 W) (hb : Below W.heap.size W W') : R6 A7 n7 l0 A8 n8 l1 A9 n9 l2 A10 n10 f0 A11 n11 f1 A12 n12 f2 W' := ⟨h.x7.below hb, h.x8.below hb, h.x9.below hb, h.x10.below hb, h.x11.below hb, h.x12.below hb⟩
/-- One statement, in a row of its own. -/
theorem oneS {W : World} {T : TypeId} {k : Int} {x : List UInt8} {es : List XV} {ts us : List SV} {l cc : Int} {A1 : Option Addr} {c1 : Nat} {A2 : Option Addr} {c2 : Nat} {A3 : Option Addr} {c3 : Nat} (h1 : XR W A1 es) (h2 : SR W A2 ts) (h3 : SR W A3 us) : SR (W.alloc (.cells #[.int .i64 k, .string ⟨x.toArray⟩, .slice A1 es.length c1, .slice A2 ts.length c2, .slice A3 us.length c3, .int .i64 l, .int .i64 cc] T)) (some ⟨W.heap.size, 0, none⟩) [.mk k x es ts us l cc] := by
  have hb := bnew5 W (.cells #[.int .i64 k, .string ⟨x.toArray⟩, .slice A1 es.length c1, .slice A2 ts.length c2, .slice A3 us.length c3, .int .i64 l, .int .i64 cc] T)
  exact SR.of_block (vs := [.int .i64 k, .string ⟨x.toArray⟩, .slice A1 es.length c1, .slice A2 ts.length c2, .slice A3 us.length c3, .int .i64 l, .int .i64 cc]) (heap_alloc_new W _) ⟨_, [], (List.append_nil _).symm, by unfold SC; exact ⟨A1, c1, A2, c2, A3, c3, rfl, fun _ => h1.sub (Sub.below hb) ‹_›, fun _ => h2.step hb ‹_›, fun _ => h3.step hb ‹_›⟩, rfl⟩
end
end Go.Proofs.YtkmioieanopafaaDoor
