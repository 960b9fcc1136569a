/- The contracts of the reference's Of, Place, Cmp of layer 4. The contracts of the reference's Cmp and Lines of layer 4, and of the comparison of two rows of texts. -/
import Derived.Test.YtijliimiojjjdaaDoorGMath
import Derived.Deep.RegionWith
import Derived.Deep.QuietTactic
import Derived.BigQuiet
namespace Go.Proofs.YtijliimiojjjdaaDoor
section
open Go.RowKit

theorem size_len_ (s : ByteArray) : s.data.toList.length = s.size := by rw [Array.length_toList]; rfl
/-- A byte of a text: what the walk reads there. -/
theorem byte_at (s : ByteArray) (i : Nat) (hi : i < s.size) : ∃ z : Int, 0 ≤ z ∧ z < 256 ∧ (∀ w, (Go.Instr.index 9 (.string s) (.int .i64 (i : Int))).run Tryd.prog w = .ok (.int .u8 z) w) ∧ (z = 10 ↔ s.data.toList[i]? = some 10) ∧ s.data.toList[i]? = some (UInt8.ofNat z.toNat) := by
  refine ⟨((s[i]'hi).toNat : Int), by omega, by have := (s[i]'hi).toNat_lt; omega, fun w => ?_, ?_, ?_⟩
  · rw [run_index_string w 9 s .i64 i Tryd.underlying9, dif_pos ⟨by omega, by omega⟩]
    simp
  · have h : s.data.toList[i]? = some (s[i]'hi) := by
      rw [List.getElem?_eq_getElem (by rw [size_len_]; exact hi)]; rfl
    rw [h]
    constructor
    · intro h2
      congr 1
      exact UInt8.toNat_inj.1 (by show _ = 10; omega)
    · intro h2
      injection h2 with h2
      rw [h2]; rfl
  · rw [List.getElem?_eq_getElem (by rw [size_len_]; exact hi)]
    simp
    rfl

/-- A position in a box: a line and a column. -/
structure PB (W : World) (g : Nat) (l c : Int) : Prop where
  c0 : W.cell? ⟨g, 0, none⟩ = some (.int .i64 l)
  c1 : W.cell? ⟨g, 1, none⟩ = some (.int .i64 c)
  f0 : W.frozen? ⟨g, 0, none⟩ = false
  f1 : W.frozen? ⟨g, 1, none⟩ = false

section
variable {W W' : World} {g : Nat} {l c : Int}
theorem PB.step (h : PB W g l c) (hb : Below W.heap.size W W') : PB W' g l c :=
  ⟨(bcell1 hb h.c0 h.f0).1, (bcell1 hb h.c1 h.f1).1, (bcell1 hb h.c0 h.f0).2, (bcell1 hb h.c1 h.f1).2⟩
theorem PB.far (h : PB W g l c) {p : Addr} (hp : p.block ≠ g) (u : Value) : PB (W.setCell p u) g l c :=
  ⟨(World.cell?_setCell_other _ _ _ _ (fun e => hp (by rw [e]))).trans h.c0, (World.cell?_setCell_other _ _ _ _ (fun e => hp (by rw [e]))).trans h.c1, by simpa using h.f0, by simpa using h.f1⟩
theorem PB.set1 (h : PB W g l c) (x : Int) : PB (W.setCell ⟨g, 1, none⟩ (.int .i64 x)) g l x :=
  ⟨(World.cell?_setCell_other _ _ _ _ (fun e => by injection e; omega)).trans h.c0, World.cell?_setCell_same _ _ _ h.c1, by simpa using h.f0, by simpa using h.f1⟩
theorem PB.set0 (h : PB W g l c) (x : Int) : PB (W.setCell ⟨g, 0, none⟩ (.int .i64 x)) g x c :=
  ⟨World.cell?_setCell_same _ _ _ h.c0, (World.cell?_setCell_other _ _ _ _ (fun e => by injection e; omega)).trans h.c1, by simpa using h.f0, by simpa using h.f1⟩
theorem PB.new (W : World) (l c : Int) (T : TypeId) : PB (W.alloc (.cells #[.int .i64 l, .int .i64 c] T)) W.heap.size l c :=
  ⟨by simp [go_sem], by simp [go_sem], by simp [go_sem], by simp [go_sem]⟩
theorem PB.lt (h : PB W g l c) : g < W.heap.size := World.block_lt_of_cell? W ⟨g, 0, none⟩ h.c0
end

set_option maxHeartbeats 1000000 in
theorem refPosOf_no (s : ByteArray) (z : Int) (h : z < 0 ∨ (¬ z < 0 ∧ (s.size : Int) < z)) (w : World) :
    Calls Tryd.prog 9 #[.string s, .int .i64 z] w fun e w' => e = .returned (.tuple #[.agg #[.int .i64 0, .int .i64 0], .bool false]) ∧ Below w.heap.size w w' := by
  rcases h with h | ⟨h, h2⟩
  · go_enter Tryd.func9, Tryd.ntmps9
    go_wp2_with fail
    refine bodyPost_ret (v := .tuple #[.agg #[.int .i64 0, .int .i64 0], .bool false]) (by simp [results, Tryd.results9, go_sem]) rfl ?_
    exact ⟨rfl, (Below.refl _ _).alloc (Nat.le_refl _) _⟩
  · go_enter Tryd.func9, Tryd.ntmps9
    go_wp2_with fail
    refine bodyPost_ret (v := .tuple #[.agg #[.int .i64 0, .int .i64 0], .bool false]) (by simp [results, Tryd.results9, go_sem]) rfl ?_
    exact ⟨rfl, (Below.refl _ _).alloc (Nat.le_refl _) _⟩

/-- What the loops over a text hold. -/
structure PL4 (w : World) (gr g : Nat) (l c : Int) (W : World) : Prop where
  res : PB W gr 0 0
  cur : PB W g l c
  ne : gr ≠ g
  base : w.heap.size ≤ gr ∧ w.heap.size ≤ g
  below : Below w.heap.size w W

theorem PL4.set0 {w W : World} {gr g : Nat} {l c : Int} (h : PL4 w gr g l c W) (x : Int) : PL4 w gr g x c (W.setCell ⟨g, 0, none⟩ (.int .i64 x)) :=
  ⟨h.res.far (fun e => h.ne e.symm) _, h.cur.set0 x, h.ne, h.base, h.below.setCell h.base.2 _⟩
theorem PL4.set1 {w W : World} {gr g : Nat} {l c : Int} (h : PL4 w gr g l c W) (x : Int) : PL4 w gr g l x (W.setCell ⟨g, 1, none⟩ (.int .i64 x)) :=
  ⟨h.res.far (fun e => h.ne e.symm) _, h.cur.set1 x, h.ne, h.base, h.below.setCell h.base.2 _⟩
/-- A position stored at once into the result's box. -/
theorem PB.both {W : World} {g : Nat} {l c : Int} (h : PB W g l c) (x y : Int) : PB ((W.setCell ⟨g, 0, none⟩ (.int .i64 x)).setCell ⟨g, 1, none⟩ (.int .i64 y)) g x y := (h.set0 x).set1 y

set_option maxHeartbeats 1000000 in
theorem refPosOf_yes (s : ByteArray) (k : Nat) (h : k ≤ s.size) (hs : s.size ≤ 100000) (w : World) :
    Calls Tryd.prog 9 #[.string s, .int .i64 k] w fun e w' => e = .returned (.tuple #[.agg #[.int .i64 ((spot s.data.toList k).1 : Nat), .int .i64 ((spot s.data.toList k).2 : Nat)], .bool true]) ∧ Below w.heap.size w w' := by
  have h1 : ¬ ((k : Int) < 0) := by omega
  have h2 : ¬ ((s.size : Int) < (k : Int)) := by omega
  have hst0 : Hid (PL4 w w.heap.size (w.heap.size + 1) 1 1 ((w.alloc (.cells #[.int .i64 0, .int .i64 0] 27)).alloc (.cells #[.int .i64 1, .int .i64 1] 27))) :=
    ⟨(PB.new w 0 0 _).step ((Below.refl _ _).alloc (Nat.le_refl _) _), by have := PB.new (w.alloc (.cells #[.int .i64 0, .int .i64 0] 27)) 1 1 27; simpa using this, by omega, by omega, ((Below.refl _ _).alloc (Nat.le_refl _) _).alloc (by simp) _⟩
  go_enter Tryd.func9, Tryd.ntmps9
  go_wp2_with fail
  go_loopw [7] (fun v W => ∃ i : Nat, i ≤ k ∧ v = .int .i64 i ∧ Hid (PL4 w w.heap.size (w.heap.size + 1) ((spot s.data.toList i).1 : Nat) ((spot s.data.toList i).2 : Nat) W)) (fun v _ => k - (intOf v).toNat)
  case atStart => exact ⟨0, by omega, rfl, hst0⟩
  case round =>
    obtain ⟨i, hi, rfl, hst⟩ := hrel
    clear hst0
    have c0 := hst.out.cur.c0
    have c1 := hst.out.cur.c1
    have f0 := hst.out.cur.f0
    have f1 := hst.out.cur.f1
    have hb := spot_pos s.data.toList i
    by_cases hlt : i < k
    · obtain ⟨z, hz0, hz1, hidx, hz10, _⟩ := byte_at s i (by omega)
      have hlt' : (i : Int) < k := by omega
      by_cases h10 : z = 10
      · have hsp := spot_nl (hz10.1 h10)
        subst h10
        have HS := Lib.hid hsp
        clear hsp hz10
        generalize spot s.data.toList i = p at *
        go_wp2_with fail
        refine ⟨⟨i + 1, by omega, by go_num, ?_⟩, by simp [intOf]; omega⟩
        rw [HS.out]
        exact ((hst.out.set1 _).set0 _).set1 _
      · have hsp := spot_ch (fun h => h10 (hz10.2 h))
        have HS := Lib.hid hsp
        clear hsp hz10
        generalize spot s.data.toList i = p at *
        go_wp2_with fail
        refine ⟨⟨i + 1, by omega, by go_num, ?_⟩, by simp [intOf]; omega⟩
        rw [HS.out]
        exact hst.out.set1 _
    · obtain rfl : i = k := by omega
      have hr := hst.out.res
      have r0 := hr.c0
      have r1 := hr.c1
      have q0 := hr.f0
      have q1 := hr.f1
      go_wp2_with fail
      have hfin := hr.both ((spot s.data.toList i).1 : Nat) ((spot s.data.toList i).2 : Nat)
      have e0 := hfin.c0
      have e1 := hfin.c1
      refine bodyPost_ret (v := .tuple #[.agg #[.int .i64 ((spot s.data.toList i).1 : Nat), .int .i64 ((spot s.data.toList i).2 : Nat)], .bool true]) (by simp [results, Tryd.results9, go_sem, r0, r1]) rfl ?_
      exact ⟨rfl, (hst.out.below.setCell (Nat.le_refl _) _).setCell (Nat.le_refl _) _⟩

/-- What the loop of Place holds. -/
structure PL5 (w : World) (gp g : Nat) (l c : Int) (l' c' : Int) (W : World) : Prop where
  arg : PB W gp l c
  cur : PB W g l' c'
  ne : gp ≠ g
  base : w.heap.size ≤ g
  below : Below w.heap.size w W
theorem PL5.set0 {w W : World} {gp g : Nat} {l c l' c' : Int} (h : PL5 w gp g l c l' c' W) (x : Int) : PL5 w gp g l c x c' (W.setCell ⟨g, 0, none⟩ (.int .i64 x)) :=
  ⟨h.arg.far (fun e => h.ne e.symm) _, h.cur.set0 x, h.ne, h.base, h.below.setCell h.base _⟩
theorem PL5.set1 {w W : World} {gp g : Nat} {l c l' c' : Int} (h : PL5 w gp g l c l' c' W) (x : Int) : PL5 w gp g l c l' x (W.setCell ⟨g, 1, none⟩ (.int .i64 x)) :=
  ⟨h.arg.far (fun e => h.ne e.symm) _, h.cur.set1 x, h.ne, h.base, h.below.setCell h.base _⟩
/-- How Place ends. -/
def PlaceEnd (s : ByteArray) (l c : Int) (e : Ending) : Prop :=
  (∃ k, k ≤ s.size ∧ standsAt s.data.toList l c k ∧ e = .returned (.tuple #[.int .i64 k, .bool true])) ∨
  ((∀ k, k ≤ s.size → ¬ standsAt s.data.toList l c k) ∧ e = .returned (.tuple #[.int .i64 0, .bool false]))

set_option maxHeartbeats 1000000 in
theorem refPlace (s : ByteArray) (l c : Int) (hs : s.size ≤ 100000) (w : World) :
    Calls Tryd.prog 11 #[.string s, .agg #[.int .i64 l, .int .i64 c]] w fun e w' => PlaceEnd s l c e ∧ Below w.heap.size w w' := by
  have hst0 : Hid (PL5 w w.heap.size (w.heap.size + 1) l c 1 1 ((w.alloc (.cells #[.int .i64 l, .int .i64 c] 27)).alloc (.cells #[.int .i64 1, .int .i64 1] 27))) :=
    ⟨(PB.new w l c _).step ((Below.refl _ _).alloc (Nat.le_refl _) _), by have := PB.new (w.alloc (.cells #[.int .i64 l, .int .i64 c] 27)) 1 1 27; simpa using this, by omega, by omega, ((Below.refl _ _).alloc (Nat.le_refl _) _).alloc (by simp) _⟩
  go_enter Tryd.func11, Tryd.ntmps11
  go_wp2_with fail
  go_loopw [7] (fun v W => ∃ i : Nat, i ≤ s.size + 1 ∧ v = .int .i64 i ∧ Hid (∀ j, j < i → ¬ standsAt s.data.toList l c j) ∧ Hid (PL5 w w.heap.size (w.heap.size + 1) l c ((spot s.data.toList i).1 : Nat) ((spot s.data.toList i).2 : Nat) W)) (fun v _ => s.size + 1 - (intOf v).toNat)
  case atStart => exact ⟨0, by omega, rfl, fun j hj => by omega, hst0⟩
  case round =>
    obtain ⟨i, hi, rfl, hno, hst⟩ := hrel
    clear hst0
    have c0 := hst.out.cur.c0
    have c1 := hst.out.cur.c1
    have f0 := hst.out.cur.f0
    have f1 := hst.out.cur.f1
    have a0 := hst.out.arg.c0
    have a1 := hst.out.arg.c1
    have hb := spot_pos s.data.toList i
    by_cases hle : i ≤ s.size
    · have hle' : (i : Int) ≤ s.size := by omega
      by_cases heq : standsAt s.data.toList l c i
      · have h1 := heq.1
        have h2 := heq.2
        have HE := Lib.hid heq
        clear heq
        go_wp2_with fail
        go_ret2
        exact ⟨.inl ⟨i, hle, HE.out, rfl⟩, hst.out.below⟩
      · have hno' : Hid (∀ j, j < i + 1 → ¬ standsAt s.data.toList l c j) := fun j hj => by
          rcases Nat.lt_or_ge j i with h | h
          · exact hno.out j h
          · obtain rfl : j = i := by omega
            exact heq
        have hcase : (¬ (((spot s.data.toList i).1 : Nat) : Int) = l) ∨ ((((spot s.data.toList i).1 : Nat) : Int) = l ∧ ¬ (((spot s.data.toList i).2 : Nat) : Int) = c) := by
          unfold standsAt at heq
          omega
        clear heq hno
        have hchar : (i < s.size ∧ s.data.toList[i]? = some 10) ∨ (i < s.size ∧ s.data.toList[i]? ≠ some 10) ∨ (¬ i < s.size ∧ s.data.toList[i]? ≠ some 10) := by
          by_cases h : i < s.size
          · by_cases h2 : s.data.toList[i]? = some 10
            · exact .inl ⟨h, h2⟩
            · exact .inr (.inl ⟨h, h2⟩)
          · refine .inr (.inr ⟨h, ?_⟩)
            rw [List.getElem?_eq_none (by rw [size_len_]; omega)]
            simp
        rcases hchar with ⟨hlt, hch⟩ | ⟨hlt, hch⟩ | ⟨hlt, hch⟩
        · obtain ⟨z, hz0, hz1, hidx, hz10, _⟩ := byte_at s i hlt
          obtain rfl : z = 10 := hz10.2 hch
          have HS := Lib.hid (spot_nl hch)
          have hlt' : (i : Int) < s.size := by omega
          clear hz10 hch
          generalize spot s.data.toList i = p at *
          rcases hcase with h1 | ⟨rfl, h2⟩ <;>
          (go_wp2_with fail
           refine ⟨⟨i + 1, by omega, by go_num, hno', ?_⟩, by simp [intOf]; omega⟩
           rw [HS.out]
           exact ((hst.out.set1 _).set0 _).set1 _)
        · obtain ⟨z, hz0, hz1, hidx, hz10, _⟩ := byte_at s i hlt
          have h10 : ¬ z = 10 := fun h => hch (hz10.1 h)
          have HS := Lib.hid (spot_ch hch)
          have hlt' : (i : Int) < s.size := by omega
          clear hz10 hch
          generalize spot s.data.toList i = p at *
          rcases hcase with h1 | ⟨rfl, h2⟩ <;>
          (go_wp2_with fail
           refine ⟨⟨i + 1, by omega, by go_num, hno', ?_⟩, by simp [intOf]; omega⟩
           rw [HS.out]
           exact hst.out.set1 _)
        · have HS := Lib.hid (spot_ch hch)
          have hlt' : ¬ (i : Int) < s.size := by omega
          clear hch
          generalize spot s.data.toList i = p at *
          rcases hcase with h1 | ⟨rfl, h2⟩ <;>
          (go_wp2_with fail
           refine ⟨⟨i + 1, by omega, by go_num, hno', ?_⟩, by simp [intOf]; omega⟩
           rw [HS.out]
           exact hst.out.set1 _)
    · obtain rfl : i = s.size + 1 := by omega
      have hle' : ¬ ((s.size : Int) + 1 ≤ s.size) := by omega
      go_wp2_with fail
      go_ret2
      exact ⟨.inr ⟨fun k hk => hno.out k (by omega), rfl⟩, hst.out.below⟩
end

section
open Go.RowKit

/-- How two positions are compared. -/
def posCmp (l c l' c' : Int) : Int := if l = l' ∧ c = c' then 0 else if l < l' ∨ (l = l' ∧ c < c') then -1 else 1

set_option maxHeartbeats 1000000 in
theorem refPosCmp (l c l' c' : Int) (w : World) :
    Calls Tryd.prog 26 #[.agg #[.int .i64 l, .int .i64 c], .agg #[.int .i64 l', .int .i64 c']] w fun e w' => e = .returned (.int .i64 (posCmp l c l' c')) ∧ Below w.heap.size w w' := by
  have hcase : (l < l') ∨ (l = l' ∧ c < c') ∨ (l = l' ∧ c = c') ∨ (l = l' ∧ ¬ c < c' ∧ ¬ c = c') ∨ (¬ l < l' ∧ ¬ l = l') := by omega
  rcases hcase with h | ⟨rfl, h⟩ | ⟨rfl, rfl⟩ | ⟨rfl, h, h2⟩ | ⟨h, h2⟩
  · have hv : Hid (posCmp l c l' c' = -1) := by show posCmp l c l' c' = -1; unfold posCmp; rw [if_neg (by omega), if_pos (by omega)]
    have h3 : ¬ l = l' := by omega
    go_enter Tryd.func26, Tryd.ntmps26
    go_wp2_with fail
    go_ret
    exact ⟨by rw [hv.out]; rfl, ((Below.refl _ _).alloc (Nat.le_refl _) _).alloc (by simp) _⟩
  · have hv : Hid (posCmp l c l c' = -1) := by show posCmp l c l c' = -1; unfold posCmp; rw [if_neg (by omega), if_pos (by omega)]
    have h3 : ¬ c = c' := by omega
    go_enter Tryd.func26, Tryd.ntmps26
    go_wp2_with fail
    go_ret
    exact ⟨by rw [hv.out]; rfl, ((Below.refl _ _).alloc (Nat.le_refl _) _).alloc (by simp) _⟩
  · have hv : Hid (posCmp l c l c = 0) := by show posCmp l c l c = 0; unfold posCmp; rw [if_pos (by omega)]
    go_enter Tryd.func26, Tryd.ntmps26
    go_wp2_with fail
    go_ret
    exact ⟨by rw [hv.out]; rfl, ((Below.refl _ _).alloc (Nat.le_refl _) _).alloc (by simp) _⟩
  · have hv : Hid (posCmp l c l c' = 1) := by show posCmp l c l c' = 1; unfold posCmp; rw [if_neg (by omega), if_neg (by omega)]
    go_enter Tryd.func26, Tryd.ntmps26
    go_wp2_with fail
    go_ret
    exact ⟨by rw [hv.out]; rfl, ((Below.refl _ _).alloc (Nat.le_refl _) _).alloc (by simp) _⟩
  · have hv : Hid (posCmp l c l' c' = 1) := by show posCmp l c l' c' = 1; unfold posCmp; rw [if_neg (by omega), if_neg (by omega)]
    go_enter Tryd.func26, Tryd.ntmps26
    go_wp2_with fail
    go_ret
    exact ⟨by rw [hv.out]; rfl, ((Below.refl _ _).alloc (Nat.le_refl _) _).alloc (by simp) _⟩

/-- Texts, as values. -/
def strs (r : List (List UInt8)) : List Value := r.map fun l => .string ⟨l.toArray⟩
theorem strs_oneCell (r : List (List UInt8)) : ∀ u ∈ strs r, u.oneCell' = true := by
  intro u hu
  obtain ⟨x, _, rfl⟩ := List.mem_map.1 hu
  rfl
theorem extract_span (s : ByteArray) (a b : Nat) : s.extract a b = ⟨(span s.data.toList a b).toArray⟩ := by
  apply ByteArray.ext
  apply Array.ext'
  rw [ByteArray.data_extract, Array.toList_extract]
  show _ = (span s.data.toList a b)
  unfold span
  rw [List.drop_take]
theorem info_str : (Tryd.prog.info? 9).map (fun i => (i.zero, i.size, i.bytes)) = some (some (.string ByteArray.empty), 1, 16) := by kernel_rfl

/-- A row of the call's own, of texts; nothing that stood before has turned. -/
def GrowS (w : World) (v : Value) (r : List (List UInt8)) (W : World) : Prop := W.ownsRow w.heap.size 9 1 v r.length (strs r) ∧ Below w.heap.size w W
theorem GrowS.start (w : World) : GrowS w (.slice none 0 0) [] w := ⟨World.ownsRow_nil _ _ _ _, Below.refl _ _⟩

theorem wpList_pushS {ops : Array Oper} {rest : List Oper} {o : Oper} {a : Act} {Q : Exit → Act → World → Prop} (hgd : o.guard = none) (s x : Operand)
    (ho : o.op = .call { callee := .builtin .append, args := #[s, x], argTypes := #[34, 34] })
    (v : Value) (r : List (List UInt8)) (y : List UInt8) (z : ByteArray) (w0 wr : World) (hs : a.eval s = v) (hg : GrowS w0 v r wr) (hx : a.eval x = .slice (some ⟨wr.heap.size, 0, none⟩) 1 1) (hz : z = ⟨y.toArray⟩) (hlen : r.length ≤ 1000000000)
    (h : ∀ v' w1, GrowS w0 v' (r ++ [y]) w1 → wpList Tryd.prog ops Q rest (a.put o.dst v') w1) : wpList Tryd.prog ops Q (o :: rest) a (wr.alloc (.cells #[.string z] 9)) := by
  subst hz
  obtain ⟨i0, hi0, hz0, hz1, hz2⟩ := info_parts info_str
  have hr : Reads (wr.alloc (.cells #[.string ⟨y.toArray⟩] 9)) (wr.heap.size + 1) 1 (some ⟨wr.heap.size, 0, none⟩) 1 (strs [y]) :=
    ⟨by simp [strs], fun _ => ⟨_, rfl, by simp, fun j u hu => by
      match j with
      | 0 => simp [strs] at hu; subst hu; simp [Addr.add]
      | j + 1 => simp [strs] at hu⟩⟩
  have hsz := hg.2.size
  refine wpList_append_any _ hgd s x 34 ho w0.heap.size 9 i0 _ 1 16 Tryd.underlying34 hi0 hz0 hz1 hz2 rfl (by omega) v r.length (strs r) hs (hg.1.alloc _) (wr.heap.size + 1) (some ⟨wr.heap.size, 0, none⟩) 1 1 (strs [y]) hx hr (strs_oneCell _)
    (by unfold maxLen; omega) (by omega) (by simp; omega) ?_
  intro v' w1 hown' hg' _
  refine h v' w1 ⟨by simpa [strs] using hown', (hg.2.alloc hsz _).grown hg' (by simp; omega) (fun g hgk => (hg.1.lt g hgk).1)⟩

set_option maxHeartbeats 2000000 in
theorem refLines (s : ByteArray) (hs : s.size ≤ 100000) (w : World) :
    Calls Tryd.prog 15 #[.string s] w fun e w' => ∃ v, e = .returned v ∧ GrowS w v (rows s.data.toList) w' := by
  go_enter Tryd.func15, Tryd.ntmps15
  go_wp2_with fail
  go_loopw [3, 4, 5] (fun v f i W => ∃ j : Nat, j ≤ s.size ∧ i = .int .i64 j ∧ f = .int .i64 ((cuts s.data.toList j).2 : Nat) ∧ Hid (GrowS w v (cuts s.data.toList j).1 W)) (fun _ _ i _ => s.size - (intOf i).toNat)
  case atStart => exact ⟨0, by omega, rfl, rfl, GrowS.start w⟩
  case round =>
    obtain ⟨j, hj, rfl, rfl, hst⟩ := hrel
    have hcl := cuts_le s.data.toList j
    have hlen : (cuts s.data.toList j).1.length ≤ j := by have := (cuts_len s.data.toList j).1; have := spot_pos s.data.toList j; omega
    by_cases hlt : j < s.size
    · obtain ⟨z, hz0, hz1, hidx, hz10, _⟩ := byte_at s j hlt
      have hlt' : (j : Int) < s.size := by omega
      by_cases h10 : z = 10
      · have hcut := Lib.hid (cuts_nl (hz10.1 h10))
        subst h10
        have hext := extract_span s (cuts s.data.toList j).2 j
        clear hz10
        generalize cuts s.data.toList j = q at *
        obtain ⟨q1, q2⟩ := q
        simp only at *
        have HE := Lib.hid hext
        clear hext
        have hq2 : (q2 : Int) ≤ j := by omega
        have hjs : (j : Int) ≤ s.size := by omega
        go_wp2_with (first
          | (at_builtin
             refine wpList_pushS rfl (.tmp 16) (.tmp 21) rfl _ q1 (span s.data.toList q2 j) _ w _ rfl hst.out rfl ?hz ?hl ?_
             case hz => exact HE.out
             case hl => omega
             intro v' w1 hg1
             have hg1 := Lib.hid hg1))
        refine ⟨⟨j + 1, by omega, by go_num, ?_, ?_⟩, by simp [intOf]; omega⟩
        · rw [hcut.out]; first | rfl | go_num
        · rw [hcut.out]; exact hg1
      · have hcut := Lib.hid (cuts_ch (fun h => h10 (hz10.2 h)))
        clear hz10
        generalize cuts s.data.toList j = q at *
        obtain ⟨q1, q2⟩ := q
        simp only at *
        go_wp2_with fail
        refine ⟨⟨j + 1, by omega, by go_num, ?_, ?_⟩, by simp [intOf]; omega⟩
        · rw [hcut.out]
        · rw [hcut.out]; exact hst
    · obtain rfl : j = s.size := by omega
      have hlt' : ¬ (s.size : Int) < s.size := by omega
      have hext := extract_span s (cuts s.data.toList s.size).2 s.size
      have hrows : rows s.data.toList = (cuts s.data.toList s.size).1 ++ [span s.data.toList (cuts s.data.toList s.size).2 s.size] := by rw [← size_len_ s]; rfl
      have HR := Lib.hid hrows
      clear hrows
      generalize cuts s.data.toList s.size = q at *
      obtain ⟨q1, q2⟩ := q
      simp only at *
      have HE := Lib.hid hext
      clear hext
      have hq2 : (q2 : Int) ≤ s.size := by omega
      go_wp2_with (first
        | (at_builtin
           refine wpList_pushS rfl (.tmp 25) (.tmp 29) rfl _ q1 (span s.data.toList q2 s.size) _ w _ rfl hst.out rfl ?hz ?hl ?_
           case hz => exact HE.out
           case hl => omega
           intro v' w1 hg1
           have hg1 := Lib.hid hg1))
      go_ret
      exact ⟨_, rfl, by rw [HR.out]; exact hg1.out⟩

theorem below_drewN_ {B : Nat} {a w : World} (h : Below B a w) (n : Nat) : Below B a (w.drewN n) := ⟨h.os, h.tape, h.output, h.size, h.block⟩

/-- A slice that reads as texts. -/
def RowS (W : World) (A : Option Addr) (n : Nat) (r : List (List UInt8)) : Prop := Reads W W.heap.size 1 A n (strs r)
theorem RowS.len {W : World} {A : Option Addr} {n : Nat} {r : List (List UInt8)} (h : RowS W A n r) : n = r.length := by have := h.1; simp [strs] at this; omega
theorem RowS.below {W W' : World} {A : Option Addr} {n : Nat} {r : List (List UInt8)} (h : RowS W A n r) (hb : Below W.heap.size W W') : RowS W' A n r := (Reads.below h hb).more hb.size
theorem GrowS.row {w W : World} {v : Value} {r : List (List UInt8)} (h : GrowS w v r W) : ∃ A c, v = .slice A r.length c ∧ RowS W A r.length r := by
  rcases h.1.2 with ⟨hv, h0⟩ | ⟨g, cap, cur, hv, _⟩
  · have hr : r = [] := List.eq_nil_of_length_eq_zero h0
    subst hr
    exact ⟨none, 0, hv, Reads.none_⟩
  · exact ⟨some ⟨g, 0, none⟩, cap, hv, by have := h.1; rw [hv] at this; exact Reads.of_own this⟩
theorem RowS.at_ {W : World} {A : Option Addr} {n : Nat} {r : List (List UInt8)} (h : RowS W A n r) {i : Nat} (hi : i < n) : ∃ ad l, A = some ad ∧ r[i]? = some l ∧ W.cell? (ad.add i) = some (.string ⟨l.toArray⟩) := by
  obtain ⟨ad, u, e, _, hx, hc⟩ := Reads.at_ h hi
  have hl := h.len
  refine ⟨ad, r[i]'(by omega), e, List.getElem?_eq_getElem (by omega), ?_⟩
  rw [hc]
  have : (strs r)[i]? = some (.string ⟨(r[i]'(by omega)).toArray⟩) := by simp [strs]
  rw [this] at hx
  exact hx.symm

set_option maxHeartbeats 1000000 in
theorem kitSame {A A' : Option Addr} {n c c' : Nat} {r : List (List UInt8)} {w : World} (h : RowS w A n r) (h' : RowS w A' n r) (hn : n ≤ 1000000) :
    Calls Tryd.prog 14 #[.slice A n c, .slice A' n c'] w fun e w' => e = .returned (.bool true) ∧ Below w.heap.size w w' := by
  have hl := Lib.hid h.len
  go_enter Tryd.func14, Tryd.ntmps14
  go_wp2_with fail
  go_loopw [5] (fun v W => ∃ i : Nat, i ≤ n ∧ v = .int .i64 i ∧ ∃ q, W = w.drewN q) (fun v _ => n - (intOf v).toNat)
  case atStart => exact ⟨0, by omega, rfl, 0, rfl⟩
  case round =>
    obtain ⟨i, hi, rfl, q, rfl⟩ := hrel
    by_cases hlt : i < n
    · obtain ⟨ad, t, rfl, ht, hc1⟩ := h.at_ hlt
      obtain ⟨ad', t', rfl, ht', hc2⟩ := h'.at_ hlt
      rw [ht] at ht'
      injection ht' with ht'
      subst ht'
      have hlt' : (i : Int) < n := by omega
      generalize (⟨t.toArray⟩ : ByteArray) = b at *
      have hbb : (b.toList == b.toList) = true := by simp
      clear h h' ht
      go_wp2_with fail
      go_quiet (fail)
      go_wp2_with fail
      refine ⟨⟨i + 1, by omega, by go_num, _, rfl⟩, by simp [intOf]; omega⟩
    · obtain rfl : i = n := by omega
      have hlt' : ¬ (i : Int) < i := by omega
      go_wp2_with fail
      go_ret
      exact ⟨rfl, below_drewN_ (Below.refl _ _) q⟩
end
end Go.Proofs.YtijliimiojjjdaaDoor
